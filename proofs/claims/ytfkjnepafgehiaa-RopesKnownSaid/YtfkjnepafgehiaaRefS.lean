/- The walk of the reference's Set (of stage 2). -/
import Derived.Test.YtfkjnepafgehiaaRefM
namespace Go.Proofs.Ytfkjnepafgehiaa
open Go.RowKit

/-- what the reference's Set hands back: a list, and the error -/
def RefSet (w : World) (l' : List Int) (f : Int) (e : Ending) (w' : World) : Prop := ∃ A c, e = .returned (.tuple #[.slice A l'.length c, .int .i64 f]) ∧ SlI w' A c l' ∧ Below w.heap.size w w' ∧ (f = 0 → ∀ a, A = some a → w.heap.size ≤ a.block)

set_option maxHeartbeats 2000000 in
theorem refSet_out (A : Option Addr) (c : Nat) (l : List Int) (w : World) (hr : SlI w A c l) (i x : Int) (ho : i < 0 ∨ (l.length : Int) ≤ i) :
    Calls Try.prog 33 #[.slice A l.length c, .int .i64 i, .int .i64 x] w (RefSet w l 4) := by
  have HR := Lib.hid hr
  clear hr
  rcases ho with ho | ho
  · go_enter Try.func33, Try.ntmps33
    go_wp2_with fail
    go_ret2
    exact ⟨A, c, rfl, HR.out, Below.refl _ _, fun h => absurd h (by decide)⟩
  · have hp : ¬ i < 0 := by omega
    go_enter Try.func33, Try.ntmps33
    go_wp2_with fail
    go_ret2
    exact ⟨A, c, rfl, HR.out, Below.refl _ _, fun h => absurd h (by decide)⟩
set_option maxHeartbeats 2000000 in
theorem refSet_height (A : Option Addr) (c : Nat) (l : List Int) (w : World) (hr : SlI w A c l) (i : Nat) (hi : i < l.length) (x : Int) (hx : x < 0 ∨ 2305843009213693952 < x) :
    Calls Try.prog 33 #[.slice A l.length c, .int .i64 i, .int .i64 x] w (RefSet w l 12) := by
  have HR := Lib.hid hr
  have d1 : decide ((i : Int) < 0) = false := by simp
  clear hr
  rcases hx with hx | hx
  · go_enter Try.func33, Try.ntmps33
    go_wp2_with fail
    go_ret2
    exact ⟨A, c, rfl, HR.out, Below.refl _ _, fun h => absurd h (by decide)⟩
  · have hp : ¬ x < 0 := by omega
    go_enter Try.func33, Try.ntmps33
    go_wp2_with fail
    go_ret2
    exact ⟨A, c, rfl, HR.out, Below.refl _ _, fun h => absurd h (by decide)⟩

set_option maxHeartbeats 4000000 in
theorem refSet_in (A : Option Addr) (c : Nat) (l : List Int) (w : World) (hr : SlI w A c l) (hv : Vd l) (i : Nat) (hi : i < l.length) (x : Int) (h0 : 0 ≤ x) (h1 : x ≤ 2305843009213693952) :
    (4611686018427387904 < pre l l.length - l[i] + x → Calls Try.prog 33 #[.slice A l.length c, .int .i64 i, .int .i64 x] w (RefSet w l 13)) ∧
    (pre l l.length - l[i] + x ≤ 4611686018427387904 → Calls Try.prog 33 #[.slice A l.length c, .int .i64 i, .int .i64 x] w (RefSet w (l.set i x) 0)) := by
  obtain ⟨i0, hi0, hz0, hz1, hz2⟩ := info_parts Try.info2
  have HSL := Lib.hid hr
  have hr := hr.rd
  have hl := hv.len
  obtain ⟨b, o, rfl, hb, hc⟩ := hr i hi
  have hb0 : Below w.heap.size w (w.alloc (.cells #[] 2)) := (Below.refl _ _).alloc (Nat.le_refl _) _
  have hown0 : (w.alloc (.cells #[] 2)).ownsRow w.heap.size 2 1 (.slice (some ⟨w.heap.size, 0, none⟩) 0 0) 0 [] := World.ownsRow_made w #[] 0 (Nat.le_refl _) (by simp [maxLen]) rfl
  have hr0 := hr.below hb0
  have d1 : decide ((i : Int) < 0) = false := by simp
  have d2 : decide (l.length ≤ i) = false := by simpa using hi
  have d3 : decide (x < 0) = false := by simpa using h0
  have d4 : decide (2305843009213693952 < x) = false := by simpa using h1
  have b0 := hv.lo l.length
  have b1 := hv.hi l.length
  have b2 := hv.each i hi
  have b4 := hv.mono (show i + 1 ≤ l.length from hi)
  have b3 := hv.lo i
  rw [pre_succ hi] at b4
  have b5 : 0 ≤ pre l l.length - l[i] := by omega
  have a1 : IntKind.i64.wrap (pre l l.length - l[i]) = pre l l.length - l[i] := IntWalk.i64_in _ (by omega)
  have a2 : IntKind.i64.wrap (4611686018427387904 - x) = 4611686018427387904 - x := IntWalk.i64_in _ (by omega)
  have HR := Lib.hid hr
  have HV := Lib.hid hv
  have HC := Lib.hid hc
  have hiA : (i : Int) < l.length := by omega
  clear b3 b4 hr hv hc
  have key : ∀ (Q : Ending → World → Prop), (∀ g c' w', w.heap.size ≤ g → (l.length ≤ c' ∧ c' ≤ 9223372036854775807) → RdI w' w'.heap.size (some ⟨g, 0, none⟩) (l.set i x) → Below w.heap.size w w' → RdI w' w'.heap.size (some ⟨b, o, none⟩) l →
      if 4611686018427387904 < pre l l.length - l[i] + x then Q (.returned (.tuple #[.slice (some ⟨b, o, none⟩) l.length c, .int .i64 13])) w' else Q (.returned (.tuple #[.slice (some ⟨g, 0, none⟩) l.length c', .int .i64 0])) w') →
      Calls Try.prog 33 #[.slice (some ⟨b, o, none⟩) l.length c, .int .i64 i, .int .i64 x] w Q := by
    intro Q hQ
    have HQ := Lib.hid hQ
    clear hQ
    have hh : ∀ k, k = l[i] → True := fun _ _ => trivial
    obtain ⟨v, hv⟩ : ∃ v, v = l[i] := ⟨_, rfl⟩
    obtain ⟨t, ht⟩ : ∃ t, t = pre l l.length := ⟨_, rfl⟩
    have HT := Lib.hid ht
    have HVV := Lib.hid hv
    rw [← hv] at HC
    rw [← hv, ← ht] at a1 HQ b5
    rw [← hv] at b2
    rw [← ht] at b0 b1
    clear hv ht hh
    go_enter Try.func33, Try.ntmps33
    go_wp2_with (
      at_builtin
      refine wpList_append_own_at _ rfl (.tmp 25) (.tmp 26) _ rfl w.heap.size 2 i0 _ 1 8 Try.underlying22 hi0 hz0 hz1 hz2 rfl (by omega) _ 0 [] rfl hown0
        ⟨b, o, none⟩ l.length c (iv l) rfl (by rw [iv_len]; omega) hr0.news (iv_one _)
        (by simp [maxLen]; omega) (by omega) (by simp) ?_
      intro v1 w1 hown1 hgrow hnil hat
      have hb1 : Below w.heap.size w w1 := hb0.grown hgrow (by simp) (fun j e => (hown0.lt j e).1)
      obtain ⟨A1, c1, hv1, _, _, hrd1⟩ := own_rd (zs := l) (n := l.length) (by simpa using hown1) rfl
      obtain ⟨g, cap, cur, hv, hbg, hg, hnc, hcm, hcs, htk⟩ : ∃ g cap cur, v1 = .slice (some ⟨g, 0, none⟩) l.length cap ∧ w.heap.size ≤ g ∧ w1.heap[g]? = some (.cells cur 2 (0, 0)) ∧ l.length ≤ cap ∧ cap ≤ 9223372036854775807 ∧ True ∧ True := by
        rcases hown1.2 with ⟨_, hn⟩ | ⟨g, cap, cur, hv, hb, hg, hnc, hcm, hcs, ht⟩
        · omega
        · exact ⟨g, cap, cur, by simpa using hv, hb, hg, by omega, by unfold maxLen at hcm; omega, trivial, trivial⟩
      rw [hv] at hv1
      injection hv1 with hA1 _ hc1
      subst hA1
      subst hc1
      subst hv
      have hfz : w1.frozen? ⟨g, i, none⟩ = false := by simp [World.frozen?, hg]
      obtain ⟨g', o', e', hgl, hcell⟩ := hrd1 i hi
      have hcell : w1.cell? ⟨g, i, none⟩ = some (.int .i64 l[i]) := by
        injection e' with e'
        injection e' with e1 e2
        subst e1; subst e2
        simpa using hcell
      have HR1 := Lib.hid hrd1
      have HB1 := Lib.hid hb1
      have HG := Lib.hid hg
      have HCC := Lib.hid (And.intro hnc hcm)
      clear hgrow hnil hat hown1 hrd1 hb1 hg e' hgl hcm hcs htk)
    have hgw : g < w1.heap.size := lt_of_block HG.out
    have HB2 : Hid (Below w.heap.size w (w1.setCell ⟨g, i, none⟩ (.int .i64 x))) := Lib.hid (HB1.out.setCell (p := ⟨g, i, none⟩) hbg _)
    have HRs : Hid (RdI (w1.setCell ⟨g, i, none⟩ (.int .i64 x)) (w1.setCell ⟨g, i, none⟩ (.int .i64 x)).heap.size (some ⟨g, 0, none⟩) (l.set i x)) := Lib.hid fun k hk => by
      have hk' : k < l.length := by simpa using hk
      refine ⟨g, 0, rfl, by simpa [World.setCell] using hgw, ?_⟩
      rw [List.getElem_set, Nat.zero_add]
      by_cases hik : i = k
      · subst hik
        rw [if_pos rfl]
        exact World.cell?_setCell_same w1 ⟨g, i, none⟩ (.int .i64 x) (u := .int .i64 l[i]) hcell
      · rw [if_neg hik]
        obtain ⟨g', o', e', _, hc'⟩ := HR1.out k hk'
        injection e' with e'
        injection e' with e1 e2
        subst e1; subst e2
        rw [World.cell?_setCell_other w1 _ _ _ (fun e => by injection e with _ e; exact hik e)]
        simpa using hc'
    generalize w1.setCell ⟨g, i, none⟩ (.int .i64 x) = w2 at *
    have HRl := Lib.hid (HR.out.next HB2.out)
    have hcl : w2.cell? ⟨b, o + i, none⟩ = some (.int .i64 v) := (HB2.out.cell (p := ⟨b, o + i, none⟩) hb).trans HC.out
    have HS : Hid (∀ n, Calls Try.prog 22 #[.slice (some ⟨b, o, none⟩) l.length c, .int .i64 l.length] (w2.drewN n) fun e w' => e = .returned (.int .i64 t) ∧ w' = w2.drewN n) := Lib.hid fun n => by
      have := refSum_any (some ⟨b, o, none⟩) c l (w2.drewN n) HRl.out HV.out l.length (Nat.le_refl _)
      rw [← HT.out] at this
      exact this.mono fun _ _ h => ⟨h.1, h.2.symm⟩
    have HBG := Lib.hid hbg
    clear hcell hfz hgw hbg
    by_cases hov : 4611686018427387904 - x < t - v
    · have HQ' := fun n => HQ.out g cap (w2.drewN n) HBG.out HCC.out HRs.out (HB2.out.trans ((below_drewN w2 n).mono HB2.out.size)) (HRl.out.drewN n)
      simp only [if_pos (show 4611686018427387904 < t - v + x by omega)] at HQ'
      have HQ2 := Lib.hid HQ'
      clear HQ' HQ
      go_quiet ((go_at_call 22; exact Calls.quiet_of_same (HS.out _)))
      go_wp2_with fail
      exact HQ2.out _
    · have HQ' := fun n => HQ.out g cap (w2.drewN n) HBG.out HCC.out HRs.out (HB2.out.trans ((below_drewN w2 n).mono HB2.out.size)) (HRl.out.drewN n)
      simp only [if_neg (show ¬ 4611686018427387904 < t - v + x by omega)] at HQ'
      have HQ2 := Lib.hid HQ'
      clear HQ' HQ
      go_quiet ((go_at_call 22; exact Calls.quiet_of_same (HS.out _)))
      go_wp2_with fail
      exact HQ2.out _
  constructor
  · intro hs
    refine key _ fun g c' w' _ _ h1 h2 h3 => ?_
    rw [if_pos hs]
    exact ⟨_, _, rfl, ⟨h3, HSL.out.le, HSL.out.max, HSL.out.nil⟩, h2, fun h => absurd h (by decide)⟩
  · intro hs
    refine key _ fun g c' w' hg0 hcc h1 h2 h3 => ?_
    rw [if_neg (by omega)]
    exact ⟨_, c', by rw [List.length_set], ⟨h1, by rw [List.length_set]; exact hcc.1, hcc.2, fun h => by cases h⟩, h2, fun _ a ha => by cases ha; exact hg0⟩
theorem refSet_any {w : World} {A : Option Addr} {c : Nat} {l : List Int} (h : SlI w A c l) (hv : Vd l) (i x : Int) :
    ∃ l', ((setR l i x).2 = 0 → l' = (setR l i x).1) ∧ Calls Try.prog 33 #[.slice A l.length c, .int .i64 i, .int .i64 x] w (RefSet w l' (setR l i x).2) := by
  unfold setR
  by_cases hp : partE l.length i 1 = 0
  · rw [if_pos hp]
    obtain ⟨j, z, rfl, hz, hj⟩ := partE_cases hp
    have hj' : j < l.length := by omega
    have hg : l.getD (j : Int).toNat 0 = l[j] := by simp [List.getD, List.getElem?_eq_getElem hj']
    by_cases hx : x < 0 ∨ 2305843009213693952 < x
    · rw [if_pos hx]
      exact ⟨l, fun h => absurd h (by decide), refSet_height A c l w h j hj' x hx⟩
    · rw [if_neg hx, hg]
      have hin := refSet_in A c l w h hv j hj' x (by omega) (by omega)
      rw [pre_all] at hin
      by_cases hs : 4611686018427387904 < l.sum - l[j] + x
      · rw [if_pos hs]
        exact ⟨l, fun h => absurd h (by decide), hin.1 hs⟩
      · rw [if_neg hs]
        exact ⟨l.set j x, fun _ => rfl, hin.2 (by omega)⟩
  · rw [if_neg hp]
    refine ⟨l, fun h => absurd h (by decide), refSet_out A c l w h i x ?_⟩
    unfold partE at hp
    split at hp
    · omega
    · exact absurd rfl hp
end Go.Proofs.Ytfkjnepafgehiaa
