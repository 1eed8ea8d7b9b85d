/- The list's At, Drop, Put. -/
import Derived.Test.YtedekcphgcmlnaaPaiA
namespace Go.Proofs.Ytedekcphgcmlnaa
open Go.RowKit

theorem at_here {L : PL} {k : Int} {i : Nat} (hi : i < L.length) (h1 : ∀ (j : Nat) (h : j < L.length), j < i → L[j].1 < k) (h2 : k ≤ L[i].1) : atI L k = i ∧ hasK L k = (L[i].1 == k) := by
  have e := atI_eq (L := L) (k := k) (by omega) h1 (fun _ => h2)
  refine ⟨e, ?_⟩
  unfold hasK
  rw [e, List.getElem?_eq_getElem hi]
theorem at_end {L : PL} {k : Int} (h1 : ∀ (j : Nat) (h : j < L.length), j < L.length → L[j].1 < k) : atI L k = L.length ∧ hasK L k = false := by
  have e := atI_eq (L := L) (k := k) (Nat.le_refl _) h1 (fun h => absurd h (Nat.lt_irrefl _))
  refine ⟨e, ?_⟩
  unfold hasK
  rw [e, List.getElem?_eq_none (Nat.le_refl _)]
/-- where a key is, or would be -/
def AtP (L : PL) (k : Int) (w : World) (e : Ending) (w' : World) : Prop := e = .returned (.tuple #[.int .i64 (atI L k), .bool (hasK L k)]) ∧ ∃ m, w' = w.drewN m
set_option maxRecDepth 100000 in
set_option maxHeartbeats 4000000 in
theorem refAt_any {w : World} {L : PL} {A : Option Addr} (c : Nat) (hr : RdR w w.heap.size A L) (k : Int) (hl : L.length ≤ 4096) : Calls Try.prog 16 #[.slice A L.length c, .int .u64 k] w (AtP L k w) := by
  have HR := Lib.hid hr
  clear hr
  go_enter Try.func16, Try.ntmps16
  go_wp2_with fail
  go_loopw [6] (fun v wr => ∃ j : Nat, j ≤ L.length ∧ v = .int .i64 j ∧ Hid (∀ (i : Nat) (h : i < L.length), i < j → L[i].1 < k) ∧ w = wr) (fun v _ => L.length - (intOf v).toNat)
  case atStart => exact ⟨0, Nat.zero_le _, rfl, Lib.hid (fun i h h2 => absurd h2 (Nat.not_lt_zero _)), rfl⟩
  case round =>
    obtain ⟨j, hj, rfl, HX, rfl⟩ := hrel
    by_cases hlt : j < L.length
    · have hlt2 : (j : Int) < (L.length : Int) := by omega
      obtain ⟨b, o, rfl, hb, c0, c1⟩ := HR.out j hlt
      have HE := Lib.hid (fun h : k ≤ L[j].1 => at_here hlt HX.out h)
      have HN := Lib.hid (fun h : L[j].1 < k => (show ∀ (i : Nat) (h : i < L.length), i < j + 1 → L[i].1 < k from fun i hi hij => by
        rcases Nat.lt_succ_iff_lt_or_eq.1 hij with h2 | rfl
        · exact HX.out i hi h2
        · exact h))
      obtain ⟨p, hp⟩ : ∃ p, L[j].1 = p := ⟨_, rfl⟩
      rw [hp] at c0 HE HN
      clear hp c1 hb
      by_cases hk : k ≤ p
      · have hE := HE.out hk
        have HE2 := Lib.hid hE
        clear hE HE HN
        go_upto_region 5 with fail
        go_quiet (fail)
        go_wp2_with fail
        go_ret2
        exact ⟨by rw [HE2.out.1, HE2.out.2]; rfl, _, rfl⟩
      · have HN2 := Lib.hid (HN.out (by omega))
        have hk2 : ¬ (p ≥ k) := by omega
        clear HE HN
        go_wp2_with fail
        go_roundw
        case rel => exact ⟨j + 1, by omega, by rfl, HN2, trivial⟩
        case measure => simp [intOf]; omega
    · have hlt2 : ¬ ((j : Int) < (L.length : Int)) := by omega
      obtain rfl : j = L.length := by omega
      have HE := Lib.hid (at_end HX.out)
      go_wp2_with fail
      go_ret2
      exact ⟨by rw [HE.out.1, HE.out.2]; rfl, 0, rfl⟩
/-- a row and an answer are returned: the old row, or a new one -/
def RowP (A0 : Option Addr) (L : PL) (v : Value) (w : World) (e : Ending) (w' : World) : Prop :=
  ∃ A c, e = .returned (.tuple #[.slice A L.length c, v]) ∧ SlR w' A c L ∧ Below w.heap.size w w' ∧ (A = A0 ∨ ∀ a, A = some a → w.heap.size ≤ a.block ∧ a.block < w'.heap.size)
theorem rowP_own {A0 : Option Addr} {L : PL} {w W : World} {v x : Value} (h : OwnR W w.heap.size v L) (hb : Below w.heap.size w W) : RowP A0 L x w (.returned (.tuple #[v, x])) W := by
  obtain ⟨A, c, rfl, hs, hf⟩ := h.sl
  exact ⟨A, c, rfl, hs, hb, .inr fun a ha => ⟨hf a ha, (World.ownsRow.lt h a.block (by subst ha; rfl)).2⟩⟩
theorem SlR.drewN {w : World} {A : Option Addr} {c : Nat} {L : PL} (h : SlR w A c L) (n : Nat) : SlR (w.drewN n) A c L := h.below (below_drewN w n)
set_option maxRecDepth 100000 in
set_option maxHeartbeats 4000000 in
theorem refDrop_no {w : World} {A : Option Addr} {c : Nat} {L : PL} (h : SlR w A c L) (k : Int) (hl : L.length ≤ 4096) (hk : hasK L k = false) :
    Calls Try.prog 11 #[.slice A L.length c, .int .u64 k] w (RowP A L (.bool false) w) := by
  have h1 := refAt_any c h.rd k hl
  unfold AtP at h1
  rw [hk] at h1
  have H1 := Lib.hid h1
  have HS := Lib.hid h
  clear h1 h hk
  go_enter Try.func11, Try.ntmps11
  go_wp2_with fail
  refine H1.out.mono ?_
  rintro e w1 ⟨rfl, m, rfl⟩
  go_wp2_with fail
  go_ret2
  exact ⟨A, c, rfl, HS.out.drewN m, below_drewN w m, .inl rfl⟩
set_option maxRecDepth 100000 in
set_option maxHeartbeats 4000000 in
theorem refDrop_yes {w : World} {A : Option Addr} {c : Nat} {L : PL} (h : SlR w A c L) (k : Int) (hl : L.length ≤ 4096) (hk : hasK L k = true) :
    Calls Try.prog 11 #[.slice A L.length c, .int .u64 k] w (RowP A (L.take (atI L k) ++ L.drop (atI L k + 1)) (.bool true) w) := by
  have hat := (has_mem hk).2.1
  have h1 := refAt_any c h.rd k hl
  unfold AtP at h1
  rw [hk] at h1
  obtain ⟨i, hi⟩ : ∃ i, atI L k = i := ⟨_, rfl⟩
  rw [hi] at h1 hat ⊢
  have H1 := Lib.hid h1
  have HS := Lib.hid h
  have hle := h.le
  have hmx := h.max
  clear h1 h hk hi
  go_enter Try.func11, Try.ntmps11
  go_wp2_with fail
  refine H1.out.mono ?_
  rintro e w0 ⟨rfl, m, hw0⟩
  have hb0 : Below w.heap.size w w0 := by rw [hw0]; exact below_drewN w m
  have hsl := HS.out.below hb0
  have hsz := hb0.size
  have HB0 := Lib.hid hb0
  clear hw0 hb0 H1
  have hti : (L.take i).length = i := by rw [List.length_take]; omega
  have hdl : (L.drop (i + 1)).length = L.length - (i + 1) := List.length_drop
  have HO : Hid (OwnR ((w0.alloc (.cells #[] 41)).drew) w0.heap.size (.slice (some ⟨w0.heap.size, 0, none⟩) 0 0) []) := Lib.hid (madeR0 w0)
  have HB : Hid (Below w0.heap.size w0 ((w0.alloc (.cells #[] 41)).drew)) := Lib.hid ((Below.refl w0.heap.size w0).alloc (Nat.le_refl _) _).drew
  have HS0 := Lib.hid ((hsl.below HB.out).head i)
  obtain ⟨A2, hA2⟩ : ∃ A2, (if c = i + 1 then A else A.map fun x => x.add ((i + 1) * 2)) = A2 := ⟨_, rfl⟩
  have HP : Hid (∀ w', Below w0.heap.size w0 w' → SlR w' A2 (c - (i + 1)) (L.drop (i + 1))) := Lib.hid (fun w' hb => by
    have := (hsl.below hb).rest (i + 1) (by omega)
    rw [hA2] at this
    exact this)
  have z1 : (i : Int) ≤ (c : Int) := by omega
  have z2 : (0 : Int) ≤ (i : Int) + 1 := by omega
  have z3 : (i : Int) + 1 ≤ (L.length : Int) := by omega
  have hw1 : IntKind.i64.wrap ((i : Int) + 1) = ((i + 1 : Nat) : Int) := by rw [IntWalk.i64_in _ (by omega)]; rfl
  clear hsl
  go_upto_region 4 with fail
  go_region_law (first
      | (refine step_appR rfl (.tmp 17) (.tmp 20) rfl w0.heap.size _ [] rfl A c (L.take i) i rfl hti.symm HO.out HS0.out (by simp; omega) HB.out.size ?_
         intro v1 w1 H1 B1)
      | (refine step_appR rfl (.tmp 21) (.tmp 25) rfl w0.heap.size v1 ([] ++ L.take i) rfl A2 (c - (i + 1)) (L.drop (i + 1)) (L.length - (i + 1)) rfl hdl.symm H1.out (HP.out _ (HB.out.trans B1.out)) (by simp only [List.nil_append]; omega) (HB.out.trans B1.out).size ?_
         intro v3 w3 H3 B3))
  go_wp2_with fail
  go_ret2
  exact rowP_own (by have := H3.out.le hsz; rwa [List.nil_append] at this) (HB0.out.trans (((HB.out.trans B1.out).trans B3.out).mono hsz))
theorem refDrop_any {w : World} {A : Option Addr} {c : Nat} {L : PL} (h : SlR w A c L) (k : Int) (hl : L.length ≤ 4096) :
    Calls Try.prog 11 #[.slice A L.length c, .int .u64 k] w (RowP A (dropL L k).1 (.bool (dropL L k).2) w) := by
  unfold dropL
  cases hk : hasK L k with
  | false => exact refDrop_no h k hl hk
  | true => exact refDrop_yes h k hl hk
end Go.Proofs.Ytedekcphgcmlnaa
