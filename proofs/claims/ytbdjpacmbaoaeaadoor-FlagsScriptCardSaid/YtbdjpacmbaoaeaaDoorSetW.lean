/- What changes one list in place: Set, cut. -/
import Derived.Test.YtbdjpacmbaoaeaaDoorReadW
import Derived.Deep.MidRow
namespace Go.Proofs.YtbdjpacmbaoaeaaDoor
open Go.RowKit

/-- nothing but block b, and what is new, has changed -/
structure Fr (w w' : World) (b : Nat) : Prop where
  os : w'.os = w.os
  tape : w'.tape = w.tape
  output : w'.output = w.output
  size : w.heap.size ≤ w'.heap.size
  block : ∀ i, i < w.heap.size → i ≠ b → w'.heap[i]? = w.heap[i]?
theorem Fr.refl (w : World) (b : Nat) : Fr w w b := ⟨rfl, rfl, rfl, Nat.le_refl _, fun _ _ _ => rfl⟩
theorem Fr.trans {w w1 w2 : World} {b : Nat} (h : Fr w w1 b) (k : Fr w1 w2 b) : Fr w w2 b :=
  ⟨k.os.trans h.os, k.tape.trans h.tape, k.output.trans h.output, Nat.le_trans h.size k.size, fun i hi h1 => (k.block i (Nat.lt_of_lt_of_le hi h.size) h1).trans (h.block i hi h1)⟩
theorem Fr.drewN {w w' : World} {b : Nat} (h : Fr w w' b) (k : Nat) : Fr w (w'.drewN k) b := ⟨h.os, h.tape, h.output, h.size, h.block⟩
theorem Fr.setCell {w w' : World} {b : Nat} (h : Fr w w' b) {p : Addr} (hp : p.block = b) (u : Value) : Fr w (w'.setCell p u) b :=
  ⟨h.os, h.tape, h.output, by simpa [World.setCell] using h.size, fun i hi h1 => (Below.heap_setCell w' p u i (by omega)).trans (h.block i hi h1)⟩
theorem Fr.setRow {w w' : World} {b : Nat} (h : Fr w w' b) (cs : Array Value) : Fr w (w'.setRow b cs) b :=
  ⟨h.os, h.tape, h.output, by simpa [World.setRow] using h.size, fun i hi h1 => (setRow_other w' b i cs h1).trans (h.block i hi h1)⟩
theorem Fr.alloc {w w' : World} {b : Nat} (h : Fr w w' b) (o : Obj) : Fr w (w'.alloc o) b :=
  ⟨h.os, h.tape, h.output, Nat.le_trans h.size (by simp), fun i hi h1 => (Below.heap_alloc w' o i (Nat.lt_of_lt_of_le hi h.size)).trans (h.block i hi h1)⟩
theorem Fr.below {w w' : World} {b B : Nat} (h : Fr w w' b) (hb : B ≤ b) (hB : B ≤ w.heap.size) : Below B w w' :=
  ⟨h.os, h.tape, h.output, h.size, fun i hi => h.block i (by omega) (by omega)⟩

theorem fcells_set (n q V : Nat) (ws : List Nat) : (fcells n ws).toArray.setIfInBounds (1 + q) (.int .u64 (V : Int)) = (fcells n (ws.set q V)).toArray := by
  unfold fcells
  apply Array.ext'
  simp [List.map_set, Nat.add_comm 1 q]
theorem getD_set (ws : List Nat) (q i V : Nat) : (ws.set q V).getD i 0 = if q = i ∧ i < ws.length then V else ws.getD i 0 := by
  simp only [List.getD_eq_getElem?_getD, List.getElem?_set]
  by_cases h : q = i
  · subst h
    by_cases h2 : q < ws.length <;> simp [h2]
  · simp [h]
theorem Raw.set {w : World} {b n : Nat} {ws : List Nat} (h : Raw w b n ws) (q V : Nat) (hV : V < 18446744073709551616) : Raw (w.setCell ⟨b, 1 + q, none⟩ (.int .u64 (V : Int))) b n (ws.set q V) :=
  ⟨by rw [← fcells_set]; exact heap_setCell_same w b (1 + q) _ 64 _ h.box, by rw [List.length_set]; exact h.len, fun i => by rw [getD_set]; split; exact hV; exact h.lt i, h.le⟩
theorem Raw.frozen {w : World} {b n : Nat} {ws : List Nat} (h : Raw w b n ws) (k : Nat) : w.frozen? ⟨b, k, none⟩ = false := frozen_of_row w b k _ 64 h.box
theorem Raw.drewN {w : World} {b n : Nat} {ws : List Nat} (h : Raw w b n ws) (k : Nat) : Raw (w.drewN k) b n ws := h.heap rfl

theorem or_lt64 (a b : Nat) (ha : a < 18446744073709551616) (hb : b < 18446744073709551616) : a ||| b < 18446744073709551616 :=
  Nat.or_lt_two_pow (n := 64) ha hb
theorem and_lt64 (a b : Nat) (hb : b < 18446744073709551616) : a &&& b < 18446744073709551616 :=
  Nat.and_lt_two_pow (n := 64) a hb
theorem words_set (l : List Bool) (q r : Nat) (v : Bool) (hr : r < 64) (_hq : q < 64) (hi0 : 64 * q + r < l.length) :
    words (l.set (64 * q + r) v) = (words l).set q (if v then word l q ||| 2 ^ r else word l q &&& (18446744073709551615 - 2 ^ r)) := by
  have h2 := two_pow_lt r hr
  have hw := word_lt l q
  symm
  apply words_ext
  · rw [List.length_set, words_len]
  · intro i hi
    rw [getD_set]
    split
    · split
      · exact or_lt64 _ _ hw h2
      · exact and_lt64 _ _ (Nat.lt_of_le_of_lt (Nat.sub_le _ _) (by decide))
    · exact words_lt l i
  · intro i hi j hj
    have e : (l.set (64 * q + r) v).getD (64 * i + j) false = if 64 * q + r = 64 * i + j then v else l.getD (64 * i + j) false := by
      simp only [List.getD_eq_getElem?_getD, List.getElem?_set]
      by_cases h : 64 * q + r = 64 * i + j
      · simp [h, show 64 * i + j < l.length by omega]
      · simp [h]
    rw [e, getD_set, words_len]
    by_cases hqi : q = i
    · subst hqi
      simp only [hi, and_self, ↓reduceIte]
      by_cases hrj : r = j
      · subst hrj
        simp only [↓reduceIte]
        cases v
        · simp only [Bool.false_eq_true, ↓reduceIte]
          rw [Nat.testBit_and]
          have : (18446744073709551615 - 2 ^ r).testBit r = !(2 ^ r).testBit r := by
            have h := Nat.testBit_two_pow_sub_succ (x := 2 ^ r) (n := 64) (by omega) r
            rw [show 2 ^ 64 - (2 ^ r + 1) = 18446744073709551615 - 2 ^ r by omega] at h
            rw [h]; simp [hr]
          rw [this]
          simp
        · simp [Nat.testBit_or]
      · have hne : ¬ 64 * q + r = 64 * q + j := by omega
        have hb : (2 ^ r).testBit j = false := by rw [Nat.testBit_two_pow]; simp [hrj]
        simp only [hne, ↓reduceIte]
        cases v
        · simp only [Bool.false_eq_true, ↓reduceIte]
          rw [Nat.testBit_and]
          have : (18446744073709551615 - 2 ^ r).testBit j = !(2 ^ r).testBit j := by
            have h := Nat.testBit_two_pow_sub_succ (x := 2 ^ r) (n := 64) (by omega) j
            rw [show 2 ^ 64 - (2 ^ r + 1) = 18446744073709551615 - 2 ^ r by omega] at h
            rw [h]; simp [hj]
          rw [this, hb, word_testBit l q j hj]
          simp
        · simp only [↓reduceIte]
          rw [Nat.testBit_or, hb, word_testBit l q j hj]
          simp
    · have hne : ¬ 64 * q + r = 64 * i + j := by omega
      simp only [hqi, false_and, ↓reduceIte, hne]
      rw [words_get l i hi, word_testBit l i j hj]
/-- the answer of what changes a list in place -/
def Ch (w : World) (b : Nat) (l : List Bool) (e : Ending) (w' : World) : Prop := e = .returned (.int .i64 0) ∧ Fl w' b l ∧ Fr w w' b
theorem andNot_u64' (a b : Nat) (ha : a < 18446744073709551616) (hb : b < 18446744073709551616) : bits .andNot .u64 (a : Int) (b : Int) = ((a &&& (18446744073709551615 - b) : Nat) : Int) := by
  have hx : a &&& (18446744073709551615 - b) < 2 ^ 64 := Nat.and_lt_two_pow _ (by omega)
  have h1 : (BitVec.ofInt 64 (a : Int)).toNat = a := by
    rw [BitVec.ofInt_natCast, BitVec.toNat_ofNat]; exact Nat.mod_eq_of_lt (by omega)
  have h2 : (BitVec.ofInt 64 (b : Int)).toNat = b := by
    rw [BitVec.ofInt_natCast, BitVec.toNat_ofNat]; exact Nat.mod_eq_of_lt (by omega)
  show IntKind.u64.wrap ((BitVec.ofInt 64 (a : Int) &&& ~~~BitVec.ofInt 64 (b : Int)).toNat : Int) = _
  rw [BitVec.toNat_and, BitVec.toNat_not, h1, h2, IntKind.wrap_u64]
  have : (2 ^ 64 - 1 - b : Nat) = 18446744073709551615 - b := by omega
  rw [this]
  omega
theorem set_nil (x : Int) (v : Bool) (w : World) : Calls Tryd.prog 19 #[.pointer none, .int .i64 x, .bool v] w fun e w' => e = .returned (.int .i64 2) ∧ w = w' := by
  go_enter Tryd.func19, Tryd.ntmps19
  go_wp2_with (go_at_call 34; refine (part_nil _ _ _).mono ?_; rintro e w' ⟨rfl, rfl⟩)
  go_ret
  exact ⟨rfl, rfl⟩
theorem set_out {w : World} {b n : Nat} {ws : List Nat} (h : Raw w b n ws) (x : Int) (v : Bool) (h1 : x ≤ 9223372036854775807) (ho : x < 0 ∨ (n : Int) ≤ x) : Calls Tryd.prog 19 #[.pointer (some ⟨b, 0, none⟩), .int .i64 x, .bool v] w fun e w' => e = .returned (.int .i64 4) ∧ w = w' := by
  have hp := part_any h x 1 h1
  rw [show partErr n x 1 = 4 by unfold partErr; rw [if_pos (by omega)]] at hp
  clear h
  go_enter Tryd.func19, Tryd.ntmps19
  go_wp2_with (go_at_call 34; refine hp.mono ?_; rintro e w' ⟨rfl, rfl⟩)
  go_ret
  exact ⟨rfl, rfl⟩
set_option maxHeartbeats 1000000 in
theorem set_in {w : World} {b : Nat} {l : List Bool} (h : Fl w b l) (i : Nat) (v : Bool) (hi : i < l.length) : Calls Tryd.prog 19 #[.pointer (some ⟨b, 0, none⟩), .int .i64 i, .bool v] w (Ch w b (l.set i v)) := by
  have hp := part_any h i 1 (by have := h.le; omega)
  rw [show partErr l.length i 1 = 0 by unfold partErr; rw [if_neg (by omega)]] at hp
  have hl := h.le
  obtain ⟨q, e1⟩ : ∃ q, q = i / 64 := ⟨_, rfl⟩
  obtain ⟨r, e2⟩ : ∃ r, r = i % 64 := ⟨_, rfl⟩
  have a1 : (i : Int) / 64 = (q : Int) := by omega
  have a2 : (i : Int) % 64 = (r : Int) := by omega
  have hr : r < 64 := by omega
  have hq : q < 64 := by omega
  have hc := h.cell q hq
  rw [words_get l q hq] at hc
  have hfz := h.frozen (1 + q)
  have ei : i = 64 * q + r := by omega
  have hp2 := two_pow_lt r hr
  have hw := word_lt l q
  have hb : IntKind.u64.wrap ((2 : Int) ^ r) = ((2 ^ r : Nat) : Int) := by rw [int_two_pow, IntKind.wrap_u64]; generalize 2 ^ r = B at *; omega
  have hor : bits .or .u64 (word l q : Int) ((2 ^ r : Nat) : Int) = ((word l q ||| 2 ^ r : Nat) : Int) := bits_or_u64_nat _ _ hw hp2
  have han : bits .andNot .u64 (word l q : Int) ((2 ^ r : Nat) : Int) = ((word l q &&& (18446744073709551615 - 2 ^ r) : Nat) : Int) := andNot_u64' _ _ hw hp2
  have HE := Lib.hid (words_set l q r v hr hq (by omega))
  have H := Lib.hid h
  have ix := index62 b q hq
  have wq : IntKind.i64.wrap (q : Int) = (q : Int) := by rw [IntKind.wrap_i64]; omega
  have hV : (if v then word l q ||| 2 ^ r else word l q &&& (18446744073709551615 - 2 ^ r)) < 18446744073709551616 := by
    split
    · exact or_lt64 _ _ hw hp2
    · exact and_lt64 _ _ (Nat.lt_of_le_of_lt (Nat.sub_le _ _) (by decide))
  have HS := Lib.hid (fun n => (H.out.drewN n).set q _ hV)
  rw [← HE.out] at HS
  rw [← ei] at HS
  have HF := Lib.hid (fun n V => ((Fr.refl w b).drewN n).setCell (p := ⟨b, 1 + q, none⟩) rfl V)
  have EL : Hid (l.length = (l.set i v).length) := Lib.hid (by rw [List.length_set])
  clear HE h e1 e2 ei
  cases v with
  | true =>
    simp only [↓reduceIte] at HS
    generalize word l q ||| 2 ^ r = V at *
    generalize 2 ^ r = B at *
    generalize word l q = W at *
    go_enter Tryd.func19, Tryd.ntmps19
    go_wp2_with (go_at_call 34; refine hp.mono ?_; rintro e w' ⟨rfl, rfl⟩)
    go_still_tail 12, (by kernel_rfl)
    change wpList _ _ _ _ _ w.drew
    go_wp2_with fail
    go_ret
    have := HS.out 1
    rw [EL.out] at this
    exact ⟨rfl, this, HF.out 1 _⟩
  | false =>
    simp only [Bool.false_eq_true, ↓reduceIte] at HS
    generalize word l q &&& (18446744073709551615 - 2 ^ r) = V at *
    generalize 2 ^ r = B at *
    generalize word l q = W at *
    go_enter Tryd.func19, Tryd.ntmps19
    go_wp2_with (go_at_call 34; refine hp.mono ?_; rintro e w' ⟨rfl, rfl⟩)
    go_still_tail 12, (by kernel_rfl)
    change wpList _ _ _ _ _ w.drew
    go_wp2_with fail
    go_ret
    have := HS.out 1
    rw [EL.out] at this
    exact ⟨rfl, this, HF.out 1 _⟩
end Go.Proofs.YtbdjpacmbaoaeaaDoor
