/- The words of a part of a list of bits, and of lists put together: plain mathematics. -/
import Derived.Test.YtbdjpacmbaoaeaaDoorFillW
namespace Go.Proofs.YtbdjpacmbaoaeaaDoor

/-- a word of the part, with m words copied from word k on and shifted by r -/
def mvw (l : List Bool) (k r m i : Nat) : Nat := if i + 1 < m then (word l (k + i) / 2 ^ r) ||| (word l (k + i + 1) * 2 ^ (64 - r) % 18446744073709551616) else word l (k + i) / 2 ^ r
/-- the words when the first j are shifted -/
def shw (l : List Bool) (k r m j : Nat) : List Nat := (List.range 64).map fun t => if t < j then mvw l k r m t else if t < m then word l (k + t) else 0
theorem shw_len (l : List Bool) (k r m j : Nat) : (shw l k r m j).length = 64 := by simp [shw]
theorem shw_get (l : List Bool) (k r m j t : Nat) (h : t < 64) : (shw l k r m j).getD t 0 = if t < j then mvw l k r m t else if t < m then word l (k + t) else 0 := by
  simp [shw, List.getD_eq_getElem?_getD, h]
theorem div_lt64 (x r : Nat) (h : x < 18446744073709551616) : x / 2 ^ r < 18446744073709551616 := Nat.lt_of_le_of_lt (Nat.div_le_self _ _) h
theorem mvw_lt (l : List Bool) (k r m i : Nat) : mvw l k r m i < 18446744073709551616 := by
  unfold mvw
  split
  · exact or_lt64 _ _ (div_lt64 _ _ (word_lt l _)) (Nat.mod_lt _ (by decide))
  · exact div_lt64 _ _ (word_lt l _)
theorem shw_lt (l : List Bool) (k r m j i : Nat) : (shw l k r m j).getD i 0 < 18446744073709551616 := by
  by_cases h : i < 64
  · rw [shw_get l k r m j i h]
    split
    · exact mvw_lt l k r m i
    · split
      · exact word_lt l _
      · decide
  · simp [shw, List.getD_eq_getElem?_getD, h]
theorem shw_set (l : List Bool) (k r m j : Nat) (u : Nat) (_hj : j < 64) : ((shw l k r m j).set j u).set j (mvw l k r m j) = shw l k r m (j + 1) := by
  rw [List.set_set]
  apply List.ext_getElem?
  intro i
  rw [List.getElem?_set, shw_len]
  by_cases h : i < 64
  · simp only [shw, List.getElem?_map, List.getElem?_range h, Option.map_some]
    by_cases hj : j = i
    · subst hj
      simp [h]
    · rw [if_neg hj]
      by_cases hij : i < j
      · rw [if_pos hij, if_pos (by omega)]
      · rw [if_neg hij, if_neg (show ¬ i < j + 1 by omega)]
  · by_cases hj : j = i
    · subst hj
      rw [if_pos rfl, if_neg h, List.getElem?_eq_none (by rw [shw_len]; omega)]
    · rw [if_neg hj, List.getElem?_eq_none (by rw [shw_len]; omega), List.getElem?_eq_none (by rw [shw_len]; omega)]
theorem mvw_bit (l : List Bool) (k r m i j : Nat) (hr : r < 64) (hj : j < 64) : (mvw l k r m i).testBit j = if j + r < 64 then l.getD (64 * (k + i) + j + r) false else if i + 1 < m then l.getD (64 * (k + i) + j + r) false else false := by
  have h1 : (word l (k + i) / 2 ^ r).testBit j = if j + r < 64 then l.getD (64 * (k + i) + j + r) false else false := by
    rw [Nat.testBit_div_two_pow]
    by_cases h : j + r < 64
    · rw [if_pos h, word_testBit l _ _ h]
      congr 1; omega
    · rw [if_neg h]
      have hp : (2 : Nat) ^ 64 ≤ 2 ^ (j + r) := Nat.pow_le_pow_right (by decide) (by omega)
      exact Nat.testBit_lt_two_pow (Nat.lt_of_lt_of_le (word_lt l _) hp)
  unfold mvw
  by_cases hm : i + 1 < m
  · rw [if_pos hm, if_pos hm, Nat.testBit_or, h1]
    have h2 : (word l (k + i + 1) * 2 ^ (64 - r) % 18446744073709551616).testBit j = if j + r < 64 then false else l.getD (64 * (k + i) + j + r) false := by
      have := Nat.testBit_mod_two_pow (word l (k + i + 1) * 2 ^ (64 - r)) 64 j
      rw [show (2 : Nat) ^ 64 = 18446744073709551616 by decide] at this
      rw [this, Nat.testBit_mul_two_pow]
      by_cases h : j + r < 64
      · rw [if_pos h]
        simp
        intro _ h3
        omega
      · rw [if_neg h, word_testBit l _ _ (by omega)]
        have e : 64 * (k + i + 1) + (j - (64 - r)) = 64 * (k + i) + j + r := by omega
        rw [e]
        simp [hj]
        intro h3
        omega
    rw [h2]
    split <;> simp
  · rw [if_neg hm, if_neg hm, h1]
/-- the part, with what lies behind it made false -/
theorem cut_shw (l : List Bool) (a n k r m : Nat) (ha : a = 64 * k + r) (hr : r < 64) (hm : m = (a + n + 63) / 64 - k) (_hn : n ≤ 4096) : cutw n (shw l k r m m) = words ((l.drop a).take n) := by
  apply words_ext (cutw_len _ _)
  · intro i _
    exact cutw_lt n (shw_lt l k r m m) i
  · intro i hi j hj
    rw [cutw_bit n _ i j hi, shw_get l k r m m i hi]
    simp only [List.getD_eq_getElem?_getD, List.getElem?_take, List.getElem?_drop]
    by_cases h : 64 * i + j < n
    · have him : i < m := by omega
      rw [if_pos him, mvw_bit l k r m i j hr hj, if_pos h]
      have e : 64 * (k + i) + j + r = a + (64 * i + j) := by omega
      rw [e]
      simp only [h, decide_true, Bool.true_and, List.getD_eq_getElem?_getD]
      by_cases h1 : j + r < 64
      · rw [if_pos h1]
      · rw [if_neg h1, if_pos (by omega)]
    · rw [if_neg h]
      simp [h]
theorem words_drop (l : List Bool) (k m : Nat) (hk : k + m ≤ 64) (i : Nat) : (((words l).drop k).take m)[i]? = if i < m then some (word l (k + i)) else none := by
  rw [List.getElem?_take]
  split
  · rw [List.getElem?_drop]
    simp [words, show k + i < 64 by omega]
  · rfl
/-- the words copied into a list of none -/
theorem splice_part (l : List Bool) (n k r m : Nat) (hk : k + m ≤ 64) : splice (fcells n zs) 1 ((((words l).drop k).take m).map fun (x : Nat) => Value.int .u64 (x : Int)) = fcells n (shw l k r m 0) := by
  have hl : (((words l).drop k).take m).length = m := by rw [List.length_take, List.length_drop, words_len]; omega
  unfold splice fcells
  have e : (1 : Nat) + ((((words l).drop k).take m).map fun (x : Nat) => Value.int .u64 (x : Int)).length = m + 1 := by rw [List.length_map, hl]; omega
  rw [e, List.take_succ_cons, List.take_zero, List.drop_succ_cons]
  simp only [List.cons_append, List.nil_append]
  congr 1
  rw [← List.map_drop, ← List.map_append]
  congr 1
  apply List.ext_getElem?
  intro i
  by_cases hi : i < m
  · rw [List.getElem?_append_left (by omega), words_drop l k m hk, if_pos hi]
    simp [shw, hi, show i < 64 by omega]
  · rw [List.getElem?_append_right (by omega), hl, List.getElem?_drop]
    by_cases h64 : i < 64
    · unfold zs
      rw [List.getElem?_replicate, if_pos (by omega)]
      simp [shw, h64, hi]
    · rw [List.getElem?_eq_none (by simp [zs]; omega), List.getElem?_eq_none (by rw [shw_len]; omega)]
end Go.Proofs.YtbdjpacmbaoaeaaDoor
