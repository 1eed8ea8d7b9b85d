/- Lemmas for the walk of lives. -/
import Derived.Test.YtbdjpacmbaoaeaaDoorBitsW
namespace Go.Proofs.YtbdjpacmbaoaeaaDoor
open Go.RowKit S

theorem bits_lit (xs : List Int) (w : World) (hl : xs.length ≤ 1000) : Calls Tryd.prog 33 #[.slice (some ⟨w.heap.size, 0, none⟩) xs.length xs.length] (w.alloc (.cells (xs.map (Value.int .i64)).toArray 3)) fun e w' => ∃ B d, e = .returned (.slice B xs.length d) ∧ RdB w' w'.heap.size B (xs.map fun x => x == 1) ∧ Below w.heap.size w w' := by
  have hr := RdI.lit (w := w) xs
  have e : (w.alloc (.cells (xs.map (Value.int .i64)).toArray 3)).heap.size = w.heap.size + 1 := by simp
  refine (bits_any _ xs.length xs _ (by rw [e]; exact hr) hl).mono ?_
  rintro r w' ⟨B, d, h1, h2, h3⟩
  exact ⟨B, d, h1, h2, ((Below.refl _ _).alloc (Nat.le_refl _) _).trans (h3.mono (by rw [e]; omega))⟩
theorem Nw.below {w w1 w2 : World} {l : List Bool} {b : Nat} (h : Nw w l b w1) (k : Below w1.heap.size w1 w2) : Nw w l b w2 :=
  ⟨Below.raw k h.1.lt_size h.1, h.2.1, h.2.2.trans (k.mono h.2.2.size)⟩
theorem Nw.drewN {w w1 : World} {l : List Bool} {b : Nat} (h : Nw w l b w1) (k : Nat) : Nw w l b (w1.drewN k) :=
  ⟨h.1.drewN k, h.2.1, ⟨h.2.2.os, h.2.2.tape, h.2.2.output, h.2.2.size, h.2.2.block⟩⟩
theorem Nw.ch {w w1 w2 : World} {l m : List Bool} {b : Nat} {e : Ending} (h : Nw w l b w1) (k : Ch w1 b m e w2) : Nw w m b w2 :=
  ⟨k.2.1, h.2.1, h.2.2.trans (k.2.2.below h.2.1 h.2.2.size)⟩
theorem Nw.other {w w1 w2 : World} {l m : List Bool} {b c : Nat} {e : Ending} (h : Nw w l b w1) (hn : b ≠ c) (hc : w.heap.size ≤ c) (k : Ch w1 c m e w2) : Nw w l b w2 :=
  ⟨h.1.heap (k.2.2.block b h.1.lt_size hn), h.2.1, h.2.2.trans (k.2.2.below hc h.2.2.size)⟩
theorem Nw.more {w w1 w2 : World} {l : List Bool} {b : Nat} (hB : Below w.heap.size w w1) (h : Nw w1 l b w2) : Nw w l b w2 :=
  ⟨h.1, Nat.le_trans hB.size h.2.1, hB.trans (h.2.2.mono hB.size)⟩
theorem Tab.below {w w' : World} (h : Tab w) (h0 : 0 < w.heap.size) (k : Below w.heap.size w w') : Tab w' := h.heap (k.block 0 h0)
theorem Nw.tab {w w1 : World} {l : List Bool} {b : Nat} (h : Nw w l b w1) (hT : Tab w) (h0 : 0 < w.heap.size) : Tab w1 := hT.below h0 h.2.2
theorem IsNx.dec {l : List Bool} {i p : Nat} {v : Bool} (h : i ≤ p ∧ p < l.length ∧ l[p]? = some v ∧ ∀ q, q < p → i ≤ q → l[q]? ≠ some v) : IsNx l i v (some p) :=
  ⟨h.1, h.2.1, h.2.2.1, fun q h1 h2 => h.2.2.2 q h2 h1⟩
theorem next_is {w : World} {b : Nat} {l : List Bool} (h : Fl w b l) (hT : Tab w) (i : Nat) (hi : i ≤ l.length) (v : Bool) (r : Option Nat) (hr : IsNx l i v r) : Calls Tryd.prog 16 #[.pointer (some ⟨b, 0, none⟩), .int .i64 i, .bool v] w fun e w' => e = .returned (nxPair r) ∧ w = w' :=
  (next_any h hT i hi v).mono fun e w' ⟨s, h1, h2, h3⟩ => ⟨by rw [h1, h2.one hr], h3⟩
theorem val_dec {l : Int} {xs : List Sp} (h : Val l xs) : Val l xs := h
theorem mk_one {ms : List Bool} {L M : List Sp} (h : MkSet ms L) (k : MkSet ms M) : L = M := val_ext h.1 k.1 fun i => (h.2 i).trans (k.2 i).symm
theorem mk25 : MkSet [false, false, true, true, true] [((2 : Int), (5 : Int))] := by
  refine ⟨by simp [Val], fun i => ?_⟩
  unfold mkd
  simp only [hasB]
  by_cases h : 2 ≤ i ∧ i < 5
  · rw [if_pos h]
    obtain h | h | h : i = 2 ∨ i = 3 ∨ i = 4 := by omega
    all_goals subst h; rfl
  · rw [if_neg h]
    by_cases h0 : i < 0
    · simp; omega
    · by_cases h5 : 5 ≤ i
      · have : ([false, false, true, true, true] : List Bool).length ≤ i.toNat := by simp; omega
        simp [List.getD, List.getElem?_eq_none this]
      · obtain h | h : i = 0 ∨ i = 1 := by omega
        all_goals subst h; rfl
end Go.Proofs.YtbdjpacmbaoaeaaDoor
