/- The walk of the law RopesFind. -/
import Derived.Test.YtfkjnepafgehiaaLaw1W
import Derived.Test.YtfkjnepafgehiaaROf
namespace Go.Proofs.Ytfkjnepafgehiaa
open Go.RowKit

theorem Tr.keep {w w' : World} {b S : Nat} {l s : List Int} (h : Tr w b S l s) (kk : Below w.heap.size w w') : Tr w' b S l s := ⟨keep_heap kk h.box, keep_heap kk h.row, h.fen, h.vd⟩
theorem below_same (w : World) : Below w.heap.size w w := Below.refl _ _
theorem below_drewN (w : World) (n : Nat) : Below w.heap.size w (w.drewN n) := by exact ⟨rfl, rfl, rfl, Nat.le_refl _, fun _ _ => rfl⟩

def RAt (f : Nat) (l : List Int) (i : Int) (e0 : Ending) : Prop := ∀ (t : T) (p : Option Addr) (W : World), Nd W t p → Ls l t → Calls Try.prog f #[.agg #[.int .i64 t.count, .int .i64 t.total, .int .i64 t.depth, .pointer p], .int .i64 i] W fun e w' => e = e0 ∧ Below W.heap.size W w'
def TAt (f : Nat) (l : List Int) (i : Int) (e0 : Ending) : Prop := ∀ (b S : Nat) (s : List Int) (W : World), Tr W b S l s → Calls Try.prog f #[.pointer (some ⟨b, 0, none⟩), .int .i64 i] W fun e w' => e = e0 ∧ Below W.heap.size W w'
theorem ls_ok {l : List Int} {t : T} (h : Ls l t) (hv : Vd l) : Ok t.list := by rw [h.list]; exact hv.ok
theorem ls_count {l : List Int} {t : T} (h : Ls l t) : t.count = l.length := by rw [← T.len, h.list]
theorem ls_total {l : List Int} {t : T} (h : Ls l t) : t.total = l.sum := by rw [← T.sum, h.list]
theorem pre_all (l : List Int) : pre l l.length = l.sum := by rw [pre, List.take_length]

theorem both_at (l : List Int) (hv : Vd l) (i : Int) (hi : i ≤ 9223372036854775807) : ∃ a f : Int, RAt 16 l i (.returned (.tuple #[.int .i64 a, .int .i64 f])) ∧ TAt 17 l i (.returned (.tuple #[.int .i64 a, .int .i64 f])) := by
  by_cases h : i < 0 ∨ (l.length : Int) ≤ i
  · exact ⟨0, 4, fun _ _ _ hn hs => at_bad i (ls_ok hs hv) hi (by rw [ls_count hs]; exact h), fun _ _ _ _ ht => (at_out ht i h).mono fun _ _ ⟨he, n, hw⟩ => ⟨he, hw ▸ below_drewN _ n⟩⟩
  · obtain ⟨k, rfl⟩ : ∃ k : Nat, i = k := ⟨i.toNat, by omega⟩
    have hk : k < l.length := by omega
    exact ⟨l[k], 0, fun _ _ _ hn hs => at_ok hn (ls_ok hs hv) (by rw [hs.list]; exact List.getElem?_eq_getElem hk), fun _ _ _ _ ht => (at_tree ht k hk).mono fun _ _ ⟨he, n, hw⟩ => ⟨he, hw ▸ below_drewN _ n⟩⟩
theorem both_sum (l : List Int) (hv : Vd l) (i : Int) (hi : i ≤ 9223372036854775807) : ∃ a f : Int, RAt 18 l i (.returned (.tuple #[.int .i64 a, .int .i64 f])) ∧ TAt 19 l i (.returned (.tuple #[.int .i64 a, .int .i64 f])) := by
  by_cases h : i < 0 ∨ (l.length : Int) < i
  · exact ⟨0, 4, fun _ _ _ hn hs => sumR_bad i (ls_ok hs hv) hi (by rw [ls_count hs]; exact h), fun _ _ _ _ ht => (sum_out ht i h).mono fun _ _ ⟨he, hw⟩ => ⟨he, hw ▸ below_same _⟩⟩
  · obtain ⟨k, rfl⟩ : ∃ k : Nat, i = k := ⟨i.toNat, by omega⟩
    have hk : k ≤ l.length := by omega
    exact ⟨pre l k, 0, fun _ _ _ hn hs => by
      have := sumR_ok (i := k) hn (ls_ok hs hv) (by rw [ls_count hs]; exact hk)
      rwa [hs.list] at this, fun _ _ _ _ ht => (sum_tree ht k hk).mono fun _ _ ⟨he, hw⟩ => ⟨he, hw ▸ below_same _⟩⟩
theorem place_ex {l : List Int} {x : Int} (h0 : 0 ≤ x) (h1 : x < pre l l.length) : ∃ i, Place l x i := by
  have : ∀ n, n ≤ l.length → x < pre l n → ∃ i, Place l x i := by
    intro n
    induction n with
    | zero => intro _ h; rw [pre_zero] at h; omega
    | succ n ih =>
      intro hn h
      by_cases hx : x < pre l n
      · exact ih (by omega) hx
      · exact ⟨n, by omega, by omega, h⟩
  exact this _ (Nat.le_refl _) h1
theorem both_find (l : List Int) (hv : Vd l) (x : Int) : ∃ (k : Nat) (r f : Int), RAt 20 l x (.returned (.tuple #[.int .i64 k, .int .i64 r, .int .i64 f])) ∧ TAt 21 l x (.returned (.tuple #[.int .i64 k, .int .i64 r, .int .i64 f])) := by
  by_cases h : x < 0 ∨ pre l l.length ≤ x
  · exact ⟨0, 0, 4, fun _ _ _ hn hs => findR_bad x (by rw [ls_total hs, ← pre_all]; exact h), fun _ _ _ _ ht => (find_out ht x h).mono fun _ _ ⟨he, hw⟩ => ⟨he, hw ▸ below_same _⟩⟩
  · obtain ⟨i, hp⟩ := place_ex (l := l) (x := x) (by omega) (by omega)
    refine ⟨i, x - pre l i, 0, fun _ _ _ hn hs => ?_, fun _ _ _ _ ht => ?_⟩
    · have := findR_ok (x := x) (i := i) hn (ls_ok hs hv) (by rw [hs.list]; exact hp)
      rwa [hs.list] at this
    · refine (find_tree ht x (by omega) (by omega)).mono ?_
      rintro e w' ⟨j, hj, he, hw⟩
      obtain rfl := hj.uniq (fun k hk => (hv.each k hk).1) hp
      exact ⟨he, hw ▸ below_same _⟩

/-- the memory of the law -/
structure L2 (w W : World) (g : Nat) (t : T) (p : Option Addr) (b S : Nat) (l s : List Int) (A : Option Addr) : Prop where
  x : W.heap[g]? = some (.cells (rc t.count t.total t.depth p) 27 (0, 0))
  n : Nd W t p
  tr : Tr W b S l s
  rd : RdI W W.heap.size A l
  u : Below w.heap.size w W
theorem L2.next {w W W' : World} {g : Nat} {t : T} {p : Option Addr} {b S : Nat} {l s : List Int} {A : Option Addr} (h : L2 w W g t p b S l s A) (kk : Below W.heap.size W W') : L2 w W' g t p b S l s A :=
  ⟨keep_heap kk h.x, h.n.below kk, h.tr.keep kk, h.rd.next kk, h.u.trans (kk.mono h.u.size)⟩

set_option maxRecDepth 100000 in
set_option maxHeartbeats 8000000 in
theorem law2_any (hL : LivesOk) (A : Option Addr) (c : Nat) (us : List Nat) (gr : Bool) (i x : Int) (w : World) (hr : RdU w w.heap.size A us) (hlc : us.length ≤ c) (hm : c ≤ 9223372036854775807) (hi : i ≤ 9223372036854775807) :
    Calls Try.prog 4 #[.agg #[.slice A us.length c, .bool gr], .int .i64 i, .int .i64 x] w fun e w' => e = .returned (.bool true) ∧ Below w.heap.size w w' := by
  have HL := Lib.hid hL; clear hL
  have hv := xof_vd us gr
  have hB0 := (Below.refl w.heap.size w).alloc (Nat.le_refl _) (.cells #[.slice A us.length c, .bool gr] 35)
  have hrw := rOf_loop A c us gr (w.alloc (.cells #[.slice A us.length c, .bool gr] 35)) (by
    intro k hk
    obtain ⟨b, o, e, h1, h2, h3⟩ := hr.below hB0 k hk
    exact ⟨b, o, e, Nat.lt_of_lt_of_le h1 hB0.size, h2, h3⟩) hlc hm
  obtain ⟨l, hl⟩ : ∃ l, xof us gr = l := ⟨_, rfl⟩
  rw [hl] at hrw hv
  clear hl
  have hln := hv.len
  obtain ⟨a1, f1, ra, ta⟩ := both_at l hv i hi
  obtain ⟨a2, f2, rs, ts⟩ := both_sum l hv i hi
  obtain ⟨k3, r3, f3, rf, tf⟩ := both_find l hv x
  have HR0 := Lib.hid hrw
  have HV := Lib.hid hv
  have RA := Lib.hid ra; have TA := Lib.hid ta; have RS := Lib.hid rs; have TS := Lib.hid ts; have RF := Lib.hid rf; have TF := Lib.hid tf
  clear hr hv hrw ra ta rs ts rf tf
  go_enter Try.func4, Try.ntmps4
  go_wp2_with fail
  refine HR0.out.mono ?_
  rintro e w1 ⟨A1, c1, rfl, hc1, hm1, hr1, kk⟩
  have HR1 := Lib.hid hr1
  have HB1 := Lib.hid (hB0.trans (kk.mono hB0.size))
  have HO := Lib.hid (of_ok A1 c1 l w1 hr1 HV.out hc1 hm1)
  clear hr1 kk hB0 HR0
  go_wp2_with fail
  refine HO.out.mono ?_
  rintro e w2 ⟨t, p, ht, rfl, hn, kk⟩
  have hbb := (Below.refl w2.heap.size w2).alloc (Nat.le_refl _) (.cells #[.int .i64 t.count, .int .i64 t.total, .int .i64 t.depth, .pointer p] 27)
  have HR2 := Lib.hid ((HR1.out.next kk).next hbb)
  have HX2 := Lib.hid (heap_alloc_new w2 (.cells (rc t.count t.total t.depth p) 27))
  have HN2 := Lib.hid (hn.below hbb)
  have HLs := Lib.hid ht.ls
  have HB2 := Lib.hid ((HB1.out.trans (kk.mono HB1.out.size)).trans (hbb.mono (Nat.le_trans HB1.out.size kk.size)))
  have HNew := Lib.hid (new_ok A1 c1 l (w2.alloc (.cells #[.int .i64 t.count, .int .i64 t.total, .int .i64 t.depth, .pointer p] 27)) HR2.out HV.out)
  clear kk hbb hn ht HO HR1 HB1
  go_wp2_with fail
  refine HNew.out.mono ?_
  rintro e w3 ⟨b, S, s, rfl, htr, _, _, kk⟩
  have M3 := Lib.hid (show L2 w w3 w2.heap.size t p b S l s A1 from ⟨keep_heap kk HX2.out, HN2.out.below kk, htr, HR2.out.next kk, HB2.out.trans (kk.mono HB2.out.size)⟩)
  clear kk htr HNew HR2 HX2 HN2 HB2
  obtain ⟨g, hg⟩ : ∃ g, w2.heap.size = g := ⟨_, rfl⟩
  rw [hg] at M3 ⊢
  clear hg
  obtain ⟨x0, x1, x2, x3⟩ := rc_cells M3.out.x
  have HLen := Lib.hid (len_tree M3.out.tr)
  go_wp2_with fail
  refine HLen.out.mono ?_
  rintro e w' ⟨rfl, rfl⟩
  clear HLen
  go_wp2_with fail
  refine (same_lit M3.out.n HLs.out HV.out M3.out.rd rfl).mono ?_
  rintro e w4 ⟨rfl, kk⟩
  have M4 := Lib.hid (M3.out.next kk)
  clear kk M3 x0 x1 x2 x3
  obtain ⟨x0, x1, x2, x3⟩ := rc_cells M4.out.x
  go_wp2_with fail
  refine (RA.out _ _ _ M4.out.n HLs.out).mono ?_
  rintro e w5 ⟨rfl, kk⟩
  have M5 := Lib.hid (M4.out.next kk)
  clear kk M4 x0 x1 x2 x3
  go_wp2_with fail
  refine (TA.out _ _ _ _ M5.out.tr).mono ?_
  rintro e w6 ⟨rfl, kk⟩
  have M6 := Lib.hid (M5.out.next kk)
  clear kk M5
  obtain ⟨x0, x1, x2, x3⟩ := rc_cells M6.out.x
  go_wp2_with fail
  refine (RS.out _ _ _ M6.out.n HLs.out).mono ?_
  rintro e w7 ⟨rfl, kk⟩
  have M7 := Lib.hid (M6.out.next kk)
  clear kk M6 x0 x1 x2 x3
  go_wp2_with fail
  refine (TS.out _ _ _ _ M7.out.tr).mono ?_
  rintro e w8 ⟨rfl, kk⟩
  have M8 := Lib.hid (M7.out.next kk)
  clear kk M7
  obtain ⟨x0, x1, x2, x3⟩ := rc_cells M8.out.x
  go_wp2_with fail
  refine (RF.out _ _ _ M8.out.n HLs.out).mono ?_
  rintro e w9 ⟨rfl, kk⟩
  have M9 := Lib.hid (M8.out.next kk)
  clear kk M8 x0 x1 x2 x3
  go_wp2_with fail
  refine (TF.out _ _ _ _ M9.out.tr).mono ?_
  rintro e w10 ⟨rfl, kk⟩
  have M10 := Lib.hid (M9.out.next kk)
  clear kk M9 RA TA RS TS RF TF
  go_wp2_with fail
  go_loopw [18] (fun k wr => ∃ j : Nat, j ≤ l.length ∧ k = .int .i64 j ∧ Hid (L2 w wr g t p b S l s A1)) (fun k _ => l.length - (intOf k).toNat)
  case atStart => exact ⟨0, Nat.zero_le _, rfl, M10⟩
  case round =>
    obtain ⟨j, hj, rfl, MJ⟩ := hrel
    by_cases hlt : j < l.length
    · have hx := (HV.out.each j hlt)
      have HJ := Lib.hid hx
      clear hx
      have hpl : Place l (pre l j) j ∨ ¬ 0 < l[j] := by
        by_cases h : 0 < l[j]
        · exact Or.inl ⟨hlt, Int.le_refl _, by rw [pre_succ hlt]; omega⟩
        · exact Or.inr h
      have HP := Lib.hid hpl
      clear hpl
      obtain ⟨x0, x1, x2, x3⟩ := rc_cells MJ.out.x
      go_wp2_with fail
      refine (refSum_any A1 c1 l _ MJ.out.rd HV.out j hj).mono ?_
      rintro e w' ⟨rfl, rfl⟩
      go_wp2_with fail
      have hsum := sumR_ok (i := j) MJ.out.n (ls_ok HLs.out HV.out) (by rw [ls_count HLs.out]; exact hj)
      rw [HLs.out.list] at hsum
      refine hsum.mono ?_
      rintro e w5 ⟨rfl, kk⟩
      have N1 := Lib.hid (MJ.out.next kk)
      clear kk hsum MJ x0 x1 x2 x3
      obtain ⟨x0, x1, x2, x3⟩ := rc_cells N1.out.x
      go_wp2_with fail
      have hat := at_ok (i := j) (v := l[j]) N1.out.n (ls_ok HLs.out HV.out) (by rw [HLs.out.list]; exact List.getElem?_eq_getElem hlt)
      refine hat.mono ?_
      rintro e w6 ⟨rfl, kk⟩
      have N2 := Lib.hid (N1.out.next kk)
      clear kk hat N1 x0 x1 x2 x3
      obtain ⟨x0, x1, x2, x3⟩ := rc_cells N2.out.x
      obtain ⟨bb, o, hA, hbb, hc⟩ := N2.out.rd j hlt
      subst hA
      have HF : Hid (0 < l[j] → Calls Try.prog 20 #[.agg #[.int .i64 t.count, .int .i64 t.total, .int .i64 t.depth, .pointer p], .int .i64 (pre l j)] w6 fun e w' => e = .returned (.tuple #[.int .i64 j, .int .i64 0, .int .i64 0]) ∧ Below w6.heap.size w6 w') := Lib.hid (fun h => by
        have hp : Place l (pre l j) j := by rcases HP.out with h1 | h1; exact h1; omega
        have := findR_ok (x := pre l j) (i := j) N2.out.n (ls_ok HLs.out HV.out) (by rw [HLs.out.list]; exact hp)
        rw [HLs.out.list, Int.sub_self] at this
        exact this)
      generalize l[j] = v at *
      generalize pre l j = y at *
      by_cases h0 : 0 < v
      · have HF1 := Lib.hid (HF.out h0)
        have e1 : decide (0 < v) = true := by simp; exact h0
        clear h0 HF HP
        go_wp2_with fail
        refine HF1.out.mono ?_
        rintro e w12 ⟨rfl, kk⟩
        have N3 := Lib.hid (N2.out.next kk)
        clear kk HF1
        go_wp2_with fail
        go_roundw
        case rel => exact ⟨j + 1, by omega, by go_num, N3⟩
        case measure => simp [intOf]; omega
      · have e1 : v ≤ 0 := by omega
        clear h0 HF HP
        go_wp2_with fail
        go_roundw
        case rel => exact ⟨j + 1, by omega, by go_num, N2⟩
        case measure => simp [intOf]; omega
    · go_wp2_with fail
      refine (HL.out _).mono ?_
      rintro e w11 ⟨rfl, kk⟩
      have HBz := Lib.hid (MJ.out.u.trans (kk.mono MJ.out.u.size))
      clear kk
      go_wp2_with fail
      go_ret
      exact ⟨rfl, HBz.out⟩
end Go.Proofs.Ytfkjnepafgehiaa
