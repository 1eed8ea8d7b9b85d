/- The walk of Next. -/
import Derived.Test.YtbdjpacmbaoaeaaDoorSelW
namespace Go.Proofs.YtbdjpacmbaoaeaaDoor
open Go.RowKit

/-- r is the least index from i on whose bit is v, if there is one -/
def IsNx (l : List Bool) (i : Nat) (v : Bool) : Option Nat → Prop
  | some p => i ≤ p ∧ p < l.length ∧ l[p]? = some v ∧ ∀ q, i ≤ q → q < p → l[q]? ≠ some v
  | none => ∀ q, i ≤ q → q < l.length → l[q]? ≠ some v
theorem IsNx.one {l : List Bool} {i : Nat} {v : Bool} {r s : Option Nat} (h : IsNx l i v r) (k : IsNx l i v s) : r = s := by
  cases r with
  | none =>
    cases s with
    | none => rfl
    | some p => exact absurd k.2.2.1 (h p k.1 k.2.1)
  | some a =>
    cases s with
    | none => exact absurd h.2.2.1 (k a h.1 h.2.1)
    | some p =>
      rcases Nat.lt_trichotomy a p with hl | rfl | hl
      · exact absurd h.2.2.1 (k.2.2.2 a h.1 hl)
      · rfl
      · exact absurd k.2.2.1 (h.2.2.2 p k.1 hl)
/-- what Next hands back -/
def nxPair : Option Nat → Value
  | some p => .tuple #[.int .i64 (p : Int), .int .i64 0]
  | none => .tuple #[.int .i64 0, .int .i64 11]

/-- the word that is searched: bit t is true where the bit sought lies -/
structure Srch (l : List Bool) (v : Bool) (j r g : Nat) : Prop where
  lt : g < 18446744073709551616
  bit : ∀ t, t < 64 → g.testBit t = (decide (r ≤ t) && (l.getD (64 * j + t) false == v))
theorem Srch.hit {l : List Bool} {v : Bool} {i j r g : Nat} (h : Srch l v j r g) (hi : i ≤ 64 * j + r) (hm : ∀ p, i ≤ p → p < 64 * j + r → p < l.length → l[p]? ≠ some v) (h0 : g ≠ 0) (ha : 64 * j + Lib.ctz 64 g < l.length) :
    IsNx l i v (some (64 * j + Lib.ctz 64 g)) := by
  obtain ⟨h1, h2, h3⟩ := ctz64_spec g h0 h.lt
  have hb := h.bit _ h1
  rw [h2] at hb
  simp only [Bool.true_eq, Bool.and_eq_true, decide_eq_true_eq, beq_iff_eq] at hb
  refine ⟨by omega, ha, ?_, ?_⟩
  · rw [← hb.2, List.getD_eq_getElem?_getD, List.getElem?_eq_getElem ha]
    rfl
  · intro p hp1 hp2
    by_cases hlt : p < 64 * j + r
    · exact hm p hp1 hlt (by omega)
    · intro e
      have ht := h3 (p - 64 * j) (by omega)
      rw [h.bit _ (by omega), show 64 * j + (p - 64 * j) = p by omega, List.getD_eq_getElem?_getD, e] at ht
      simp at ht
      omega
theorem Srch.miss {l : List Bool} {v : Bool} {i j r g : Nat} (h : Srch l v j r g) (hm : ∀ p, i ≤ p → p < 64 * j + r → p < l.length → l[p]? ≠ some v) (h0 : g = 0 ∨ l.length ≤ 64 * j + Lib.ctz 64 g) :
    ∀ p, i ≤ p → p < 64 * (j + 1) → p < l.length → l[p]? ≠ some v := by
  intro p hp1 hp2 hp3 e
  by_cases hlt : p < 64 * j + r
  · exact hm p hp1 hlt hp3 e
  · have hb := h.bit (p - 64 * j) (by omega)
    rw [show 64 * j + (p - 64 * j) = p by omega, List.getD_eq_getElem?_getD, e] at hb
    simp at hb
    have hb' : g.testBit (p - 64 * j) = true := by rw [hb]; simp; omega
    by_cases hg : g = 0
    · rw [hg] at hb'; simp at hb'
    · obtain ⟨h1, h2, h3⟩ := ctz64_spec g hg h.lt
      have : l.length ≤ 64 * j + Lib.ctz 64 g := by rcases h0 with h0 | h0; exact absurd h0 hg; exact h0
      rw [h3 (p - 64 * j) (by omega)] at hb'
      cases hb'

theorem next_nil (x : Int) (v : Bool) (w : World) : Calls Tryd.prog 16 #[.pointer none, .int .i64 x, .bool v] w fun e w' => e = .returned (.tuple #[.int .i64 0, .int .i64 2]) ∧ w = w' := by
  go_enter Tryd.func16, Tryd.ntmps16
  go_wp2_with (go_at_call 34; refine (part_nil _ _ _).mono ?_; rintro e w' ⟨rfl, rfl⟩)
  go_ret2
  exact ⟨rfl, rfl⟩
theorem next_out {w : World} {b n : Nat} {ws : List Nat} (h : Raw w b n ws) (x : Int) (v : Bool) (h1 : x ≤ 9223372036854775807) (ho : x < 0 ∨ (n : Int) < x) : Calls Tryd.prog 16 #[.pointer (some ⟨b, 0, none⟩), .int .i64 x, .bool v] w fun e w' => e = .returned (.tuple #[.int .i64 0, .int .i64 4]) ∧ w = w' := by
  have hp := part_any h x 0 h1
  rw [show partErr n x 0 = 4 by unfold partErr; rw [if_pos (by omega)]] at hp
  clear h
  go_enter Tryd.func16, Tryd.ntmps16
  go_wp2_with (go_at_call 34; refine hp.mono ?_; rintro e w' ⟨rfl, rfl⟩)
  go_ret2
  exact ⟨rfl, rfl⟩
theorem not_testBit (b t : Nat) (hb : b < 18446744073709551616) (ht : t < 64) : (18446744073709551615 - b).testBit t = !b.testBit t := by
  have h := Nat.testBit_two_pow_sub_succ (x := b) (n := 64) (by omega) t
  rw [show 2 ^ 64 - (b + 1) = 18446744073709551615 - b by omega] at h
  rw [h]
  simp [ht]
theorem andNot_u64 (a b : Nat) (ha : a < 18446744073709551616) (hb : b < 18446744073709551616) : bits .andNot .u64 (a : Int) (b : Int) = ((a &&& (18446744073709551615 - b) : Nat) : Int) := by
  have hx : a &&& (18446744073709551615 - b) < 2 ^ 64 := Nat.and_lt_two_pow _ (by omega)
  have h1 : (BitVec.ofInt 64 (a : Int)).toNat = a := by
    rw [BitVec.ofInt_natCast, BitVec.toNat_ofNat]; exact Nat.mod_eq_of_lt (by omega)
  have h2 : (BitVec.ofInt 64 (b : Int)).toNat = b := by
    rw [BitVec.ofInt_natCast, BitVec.toNat_ofNat]; exact Nat.mod_eq_of_lt (by omega)
  show IntKind.u64.wrap ((BitVec.ofInt 64 (a : Int) &&& ~~~BitVec.ofInt 64 (b : Int)).toNat : Int) = _
  rw [BitVec.toNat_and, BitVec.toNat_not, h1, h2, IntKind.wrap_u64]
  have : (2 ^ 64 - 1 - b : Nat) = 18446744073709551615 - b := by omega
  rw [this]
  omega
theorem xor_u64 (a : Nat) (ha : a < 18446744073709551616) : bits .xor .u64 IntKind.u64.max (a : Int) = ((18446744073709551615 - a : Nat) : Int) := by
  rw [show IntKind.u64.max = 18446744073709551615 by decide]
  have h : bits .xor .u64 ((18446744073709551615 : Nat) : Int) (a : Int) = ((18446744073709551615 ^^^ a : Nat) : Int) := bits_xor_u64_nat 18446744073709551615 a (by decide) ha
  have e : 18446744073709551615 ^^^ a = 18446744073709551615 - a := by
    have hx : 18446744073709551615 ^^^ a < 2 ^ 64 := Nat.xor_lt_two_pow (by decide) (by omega)
    refine nat_ext64 (by omega) (by omega) ?_
    intro t ht
    rw [not_testBit a t ha ht, Nat.testBit_xor]
    have := Nat.testBit_two_pow_sub_one 64 t
    rw [show 2 ^ 64 - 1 = 18446744073709551615 by decide] at this
    rw [this]
    simp [ht]
  rw [← e]
  exact h
theorem Srch.all (l : List Bool) (j : Nat) : Srch l true j 0 (word l j) := ⟨word_lt l j, fun t ht => by rw [word_testBit l j t ht]; simp⟩
theorem Srch.none (l : List Bool) (j : Nat) : Srch l false j 0 (18446744073709551615 - word l j) := ⟨by have := word_lt l j; omega, fun t ht => by
  rw [not_testBit _ t (word_lt l j) ht, word_testBit l j t ht]; simp⟩
theorem Srch.from {l : List Bool} {v : Bool} {j g : Nat} (h : Srch l v j 0 g) (r : Nat) (hr : r < 64) : Srch l v j r (g &&& (18446744073709551615 - (2 ^ r - 1))) := by
  have h2 := two_pow_lt r hr
  refine ⟨?_, ?_⟩
  · have : g &&& (18446744073709551615 - (2 ^ r - 1)) < 2 ^ 64 := Nat.and_lt_two_pow _ (by omega)
    omega
  · intro t ht
    rw [Nat.testBit_and, not_testBit _ t (by omega) ht, Nat.testBit_two_pow_sub_one, h.bit t ht]
    simp
    by_cases hrt : r ≤ t
    · simp [hrt, Nat.not_lt.2 hrt]
    · simp [hrt, Nat.lt_of_not_le hrt]
end Go.Proofs.YtbdjpacmbaoaeaaDoor
