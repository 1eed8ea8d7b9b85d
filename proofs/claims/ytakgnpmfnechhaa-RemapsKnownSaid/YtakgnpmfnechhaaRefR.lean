/- The walk of the reference's Remove. -/
import Derived.Test.YtakgnpmfnechhaaRefI
namespace Go.Proofs.Ytakgnpmfnechhaa
open Go.RowKit

def remR (l : List Int) (a m : Int) : List Int × Int := if a < 0 ∨ m < 0 ∨ (l.length : Int) < a ∨ (l.length : Int) - a < m then ([], 4) else (remL l a.toNat m.toNat, 0)
set_option maxHeartbeats 4000000 in
theorem refRem_ok {w : World} {A : Option Addr} {c : Nat} {l : List Int} (h : SlI w A c l) (i n : Nat) (hi : i + n ≤ l.length) (hl : l.length ≤ 4096) :
    Calls Try.prog 27 #[.slice A l.length c, .int .i64 i, .int .i64 n] w (RowE (remL l i n, 0) w) := by
  have hle := h.le
  have HS := Lib.hid h
  have hti : (l.take i).length = i := by rw [List.length_take]; omega
  obtain ⟨q, hq⟩ : ∃ q : Nat, i + n = q := ⟨_, rfl⟩
  have hql : q ≤ l.length := by omega
  have hdl : (l.drop q).length = l.length - q := List.length_drop
  have HO : Hid (OwnI ((w.alloc (.cells #[] 3)).drew) w.heap.size (.slice (some ⟨w.heap.size, 0, none⟩) 0 0) []) := Lib.hid (own_made0 w)
  have HB : Hid (Below w.heap.size w ((w.alloc (.cells #[] 3)).drew)) := Lib.hid ((Below.refl w.heap.size w).alloc (Nat.le_refl _) _).drew
  have HS0 := Lib.hid ((HS.out.next HB.out).head i)
  obtain ⟨A2, hA2⟩ : ∃ A2, (if c = q then A else A.map fun x => x.add q) = A2 := ⟨_, rfl⟩
  have HP : Hid (∀ w', Below w.heap.size w w' → SlI w' A2 (c - q) (l.drop q)) := Lib.hid (fun w' hb => by
    have := (HS.out.next hb).rest q hql
    rw [hA2] at this
    exact this)
  have HQ := Lib.hid hq
  have HTI := Lib.hid hti
  clear h hti
  go_enter Try.func27, Try.ntmps27
  go_wp2_with fail
  have hwq : IntKind.i64.wrap ((i : Int) + (n : Int)) = (q : Int) := by rw [← Int.natCast_add, HQ.out]; exact IntWalk.i64_in _ (by omega)
  have z0 : (0 : Int) ≤ (i : Int) := by omega
  have z1 : (i : Int) ≤ (c : Int) := by omega
  have z2 : (0 : Int) ≤ (q : Int) := by omega
  have z3 : (q : Int) ≤ (l.length : Int) := by omega
  clear hq
  go_region_law (first
      | (refine step_app rfl (.tmp 28) (.tmp 31) rfl w.heap.size _ [] rfl A c (l.take i) i rfl HTI.out.symm HO.out HS0.out (by rw [HTI.out]; simp; omega) HB.out.size ?_
         intro v1 w1 H1 B1)
      | (refine step_app rfl (.tmp 32) (.tmp 37) rfl w.heap.size v1 ([] ++ l.take i) rfl A2 (c - q) (l.drop q) (l.length - q) rfl hdl.symm H1.out (HP.out _ (HB.out.trans B1.out)) (by simp only [List.nil_append]; rw [HTI.out]; omega) (HB.out.trans B1.out).size ?_
         intro v3 w3 H3 B3))
  go_wp2
  go_ret2
  exact rowE_own (base := w.heap.size) (by have := H3.out; rw [List.nil_append] at this; show OwnI w3 w.heap.size v3 (l.take i ++ l.drop (i + n)); rw [HQ.out]; exact this) ((HB.out.trans B1.out).trans B3.out)
set_option maxHeartbeats 2000000 in
theorem refRem_any {w : World} {A : Option Addr} {c : Nat} {l : List Int} (h : SlI w A c l) (a m : Int) (hl : l.length ≤ 4096) (ha : I64 a) (hm : I64 m) :
    Calls Try.prog 27 #[.slice A l.length c, .int .i64 a, .int .i64 m] w (RowE (remR l a m) w) := by
  obtain ⟨ha1, ha2⟩ := ha
  obtain ⟨hm1, hm2⟩ := hm
  unfold remR
  by_cases h1 : a < 0
  · rw [if_pos (.inl h1)]
    clear h
    go_enter Try.func27, Try.ntmps27
    go_wp2_with fail
    go_ret2
    exact rowE_err (Below.refl _ _)
  by_cases h3 : m < 0
  · rw [if_pos (.inr (.inl h3))]
    clear h
    go_enter Try.func27, Try.ntmps27
    go_wp2_with fail
    go_ret2
    exact rowE_err (Below.refl _ _)
  by_cases h2 : (l.length : Int) < a
  · rw [if_pos (.inr (.inr (.inl h2)))]
    clear h
    go_enter Try.func27, Try.ntmps27
    go_wp2_with fail
    go_ret2
    exact rowE_err (Below.refl _ _)
  by_cases h4 : (l.length : Int) - a < m
  · rw [if_pos (.inr (.inr (.inr h4)))]
    clear h
    go_enter Try.func27, Try.ntmps27
    go_wp2_with fail
    go_ret2
    exact rowE_err (Below.refl _ _)
  rw [if_neg (by omega)]
  obtain ⟨i, rfl⟩ : ∃ i : Nat, a = i := ⟨a.toNat, by omega⟩
  obtain ⟨n, rfl⟩ : ∃ i : Nat, m = i := ⟨m.toNat, by omega⟩
  rw [Int.toNat_natCast, Int.toNat_natCast]
  exact refRem_ok h i n (by omega) hl
end Go.Proofs.Ytakgnpmfnechhaa
