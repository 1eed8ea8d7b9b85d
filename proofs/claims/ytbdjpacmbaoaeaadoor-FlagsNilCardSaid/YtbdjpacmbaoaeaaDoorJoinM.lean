/- The words of lists of bits put one behind the other: plain mathematics. -/
import Derived.Test.YtbdjpacmbaoaeaaDoorPartM
namespace Go.Proofs.YtbdjpacmbaoaeaaDoor

theorem app_get (acc l : List Bool) (c P : Nat) : (acc ++ l.take c).getD P false = if P < acc.length then acc.getD P false else if P - acc.length < c then l.getD (P - acc.length) false else false := by
  simp only [List.getD_eq_getElem?_getD]
  by_cases h : P < acc.length
  · rw [if_pos h, List.getElem?_append_left h]
  · rw [if_neg h, List.getElem?_append_right (by omega), List.getElem?_take]
    split <;> rfl
theorem shl_bit (l : List Bool) (i r j : Nat) (hj : j < 64) : (word l i * 2 ^ r % 18446744073709551616).testBit j = (decide (r ≤ j) && l.getD (64 * i + (j - r)) false) := by
  have := Nat.testBit_mod_two_pow (word l i * 2 ^ r) 64 j
  rw [show (2 : Nat) ^ 64 = 18446744073709551616 by decide] at this
  rw [this, Nat.testBit_mul_two_pow]
  simp only [hj, decide_true, Bool.true_and]
  by_cases h : r ≤ j
  · simp only [h, decide_true, Bool.true_and]
    rw [word_testBit l i _ (by omega)]
  · simp [h]
theorem high_bit (l : List Bool) (i r j : Nat) (hr : r < 64) : (word l i / 2 ^ (64 - r)).testBit j = (decide (j < r) && l.getD (64 * i + (j + (64 - r))) false) := by
  rw [Nat.testBit_div_two_pow]
  by_cases h : j < r
  · rw [word_testBit l i _ (by omega)]
    simp [h]
  · have hp : (2 : Nat) ^ 64 ≤ 2 ^ (j + (64 - r)) := Nat.pow_le_pow_right (by decide) (by omega)
    rw [Nat.testBit_lt_two_pow (Nat.lt_of_lt_of_le (word_lt l i) hp)]
    simp [h]
/-- bit by bit: what the i-th word of l adds -/
theorem join_bit (acc l : List Bool) (k r i : Nat) (hp : acc.length = 64 * k + r) (hr : r < 64) (u j : Nat) (hj : j < 64) :
    (acc ++ l.take (64 * (i + 1))).getD (64 * u + j) false = ((acc ++ l.take (64 * i)).getD (64 * u + j) false || (decide (u = k + i) && (decide (r ≤ j) && l.getD (64 * i + (j - r)) false)) || (decide (u = k + i + 1) && (decide (j < r) && l.getD (64 * i + (j + (64 - r))) false))) := by
  rw [app_get, app_get, hp]
  by_cases h1 : 64 * u + j < 64 * k + r
  · rw [if_pos h1, if_pos h1]
    have e1 : (decide (u = k + i) && (decide (r ≤ j) && l.getD (64 * i + (j - r)) false)) = false := by
      by_cases a : u = k + i
      · by_cases b : r ≤ j
        · omega
        · simp [b]
      · simp [a]
    have e2 : (decide (u = k + i + 1) && (decide (j < r) && l.getD (64 * i + (j + (64 - r))) false)) = false := by
      by_cases a : u = k + i + 1
      · omega
      · simp [a]
    rw [e1, e2]
    simp
  · rw [if_neg h1, if_neg h1]
    by_cases h2 : 64 * u + j - (64 * k + r) < 64 * i
    · rw [if_pos h2, if_pos (by omega)]
      have e1 : (decide (u = k + i) && (decide (r ≤ j) && l.getD (64 * i + (j - r)) false)) = false := by
        by_cases a : u = k + i
        · by_cases b : r ≤ j
          · omega
          · simp [b]
        · simp [a]
      have e2 : (decide (u = k + i + 1) && (decide (j < r) && l.getD (64 * i + (j + (64 - r))) false)) = false := by
        by_cases a : u = k + i + 1
        · omega
        · simp [a]
      rw [e1, e2]
      simp
    · rw [if_neg h2]
      by_cases h3 : 64 * u + j - (64 * k + r) < 64 * (i + 1)
      · rw [if_pos h3]
        by_cases b : r ≤ j
        · have a : u = k + i := by omega
          have c : ¬ u = k + i + 1 := by omega
          have e : 64 * u + j - (64 * k + r) = 64 * i + (j - r) := by omega
          rw [e]
          simp [a, b]
        · have a : u = k + i + 1 := by omega
          have c : ¬ u = k + i := by omega
          have e : 64 * u + j - (64 * k + r) = 64 * i + (j + (64 - r)) := by omega
          rw [e]
          simp [a, Nat.lt_of_not_le b]
      · rw [if_neg h3]
        have e1 : (decide (u = k + i) && (decide (r ≤ j) && l.getD (64 * i + (j - r)) false)) = false := by
          by_cases a : u = k + i
          · omega
          · simp [a]
        have e2 : (decide (u = k + i + 1) && (decide (j < r) && l.getD (64 * i + (j + (64 - r))) false)) = false := by
          by_cases a : u = k + i + 1
          · have b : ¬ j < r := by omega
            simp [b]
          · simp [a]
        rw [e1, e2]
        rfl
/-- the word k + i with the low bits of the i-th word of l put in -/
def loW (acc l : List Bool) (k r i : Nat) : Nat := word (acc ++ l.take (64 * i)) (k + i) ||| (word l i * 2 ^ r % 18446744073709551616)
theorem loW_lt (acc l : List Bool) (k r i : Nat) : loW acc l k r i < 18446744073709551616 := or_lt64 _ _ (word_lt _ _) (Nat.mod_lt _ (by decide))
def hiW (acc l : List Bool) (k r i : Nat) : Nat := word (acc ++ l.take (64 * i)) (k + i + 1) ||| (word l i / 2 ^ (64 - r))
theorem hiW_lt (acc l : List Bool) (k r i : Nat) : hiW acc l k r i < 18446744073709551616 := or_lt64 _ _ (word_lt _ _) (div_lt64 _ _ (word_lt _ _))
theorem join_high (acc l : List Bool) (k r i : Nat) (hp : acc.length = 64 * k + r) (hr : r < 64) :
    (((words (acc ++ l.take (64 * i))).set (k + i) (loW acc l k r i)).set (k + i + 1) (hiW acc l k r i)) = words (acc ++ l.take (64 * (i + 1))) := by
  apply words_ext
  · rw [List.length_set, List.length_set, words_len]
  · intro u _
    rw [getD_set, getD_set]
    split
    · exact hiW_lt _ _ _ _ _
    · split
      · exact loW_lt _ _ _ _ _
      · exact words_lt _ _
  · intro u hu j hj
    rw [getD_set, getD_set, List.length_set, words_len, join_bit acc l k r i hp hr u j hj]
    by_cases a : k + i + 1 = u
    · subst a
      rw [if_pos ⟨rfl, hu⟩, hiW, Nat.testBit_or, word_testBit _ _ _ hj, high_bit l i r j hr]
      simp
    · rw [if_neg (by omega)]
      by_cases b : k + i = u
      · subst b
        rw [if_pos ⟨rfl, hu⟩, loW, Nat.testBit_or, word_testBit _ _ _ hj, shl_bit l i r j hj]
        simp
      · rw [if_neg (by omega), words_get _ _ hu, word_testBit _ _ _ hj]
        have e1 : ¬ u = k + i := by omega
        have e2 : ¬ u = k + i + 1 := by omega
        simp [e1, e2]
theorem join_low (acc l : List Bool) (k r i : Nat) (hp : acc.length = 64 * k + r) (hr : r < 64) (h0 : word l i / 2 ^ (64 - r) = 0) :
    ((words (acc ++ l.take (64 * i))).set (k + i) (loW acc l k r i)) = words (acc ++ l.take (64 * (i + 1))) := by
  apply words_ext
  · rw [List.length_set, words_len]
  · intro u _
    rw [getD_set]
    split
    · exact loW_lt _ _ _ _ _
    · exact words_lt _ _
  · intro u hu j hj
    rw [getD_set, words_len, join_bit acc l k r i hp hr u j hj]
    have hz : (decide (j < r) && l.getD (64 * i + (j + (64 - r))) false) = false := by
      rw [← high_bit l i r j hr, h0]
      simp
    rw [hz]
    by_cases b : k + i = u
    · subst b
      rw [if_pos ⟨rfl, hu⟩, loW, Nat.testBit_or, word_testBit _ _ _ hj, shl_bit l i r j hj]
      simp
    · rw [if_neg (by omega), words_get _ _ hu, word_testBit _ _ _ hj]
      have e1 : ¬ u = k + i := by omega
      simp [e1]
/-- where something is left over there is one more word -/
theorem join_room (acc l : List Bool) (k r i : Nat) (hp : acc.length = 64 * k + r) (hr : r < 64) (hl : acc.length + l.length ≤ 4096) (h0 : word l i / 2 ^ (64 - r) ≠ 0) : k + i + 1 < 64 := by
  apply Nat.lt_of_not_le
  intro hge
  apply h0
  apply Nat.eq_of_testBit_eq
  intro j
  rw [high_bit l i r j hr]
  by_cases h : j < r
  · rw [List.getD_eq_getElem?_getD, List.getElem?_eq_none (by omega)]
    simp
  · simp [h]
end Go.Proofs.YtbdjpacmbaoaeaaDoor
