/- Rows as plain data: their sizes, and which of them are known. -/
import Derived.Test.YtdejdnkkbpmmlaaMSMove
import Derived.Test.YtdejdnkkbpmmlaaMInsW
namespace Go.Proofs.Ytdejdnkkbpmmlaa
open Go.RowKit

/-- is a row known -/
def kn (r : List (Int × Bool)) (i : Int) : Bool := decide (0 ≤ i) && (r.getD i.toNat (0, false)).2
/-- the sizes -/
def sz (r : List (Int × Bool)) : List Int := r.map (·.1)
theorem kn_neg (r : List (Int × Bool)) {i : Int} (h : i < 0) : kn r i = false := by
  unfold kn; rw [decide_eq_false (by omega)]; rfl
theorem kn_nat (r : List (Int × Bool)) (k : Nat) : kn r (k : Int) = (r.getD k (0, false)).2 := by
  unfold kn; rw [decide_eq_true (Int.natCast_nonneg k)]; simp
theorem kn_out (r : List (Int × Bool)) {i : Int} (h : (r.length : Int) ≤ i) : kn r i = false := by
  obtain ⟨k, rfl⟩ := Int.eq_ofNat_of_zero_le (show 0 ≤ i by omega)
  rw [kn_nat, List.getD, List.getElem?_eq_none (by omega)]; rfl
theorem kn_in {r : List (Int × Bool)} {k : Nat} (h : k < r.length) : kn r (k : Int) = r[k].2 := by
  rw [kn_nat, List.getD, List.getElem?_eq_getElem h]; rfl
theorem kn_app (a b : List (Int × Bool)) (i : Int) : kn (a ++ b) i = if i < a.length then kn a i else kn b (i - a.length) := by
  rcases Int.lt_or_le i 0 with h | h
  · rw [kn_neg _ h, kn_neg a h, if_pos (by omega)]
  · obtain ⟨k, rfl⟩ := Int.eq_ofNat_of_zero_le h
    by_cases hk : k < a.length
    · rw [if_pos (by omega), kn_nat, kn_nat, List.getD, List.getD, List.getElem?_append_left hk]
    · rw [if_neg (by omega), show (k : Int) - (a.length : Int) = ((k - a.length : Nat) : Int) by omega, kn_nat, kn_nat, List.getD, List.getD, List.getElem?_append_right (by omega)]
theorem kn_take (r : List (Int × Bool)) (m : Nat) (i : Int) : kn (r.take m) i = if i < m then kn r i else false := by
  rcases Int.lt_or_le i 0 with h | h
  · rw [kn_neg _ h, kn_neg r h]; split <;> rfl
  · obtain ⟨k, rfl⟩ := Int.eq_ofNat_of_zero_le h
    by_cases hk : k < m
    · rw [if_pos (by omega), kn_nat, kn_nat, List.getD, List.getD, List.getElem?_take, if_pos hk]
    · rw [if_neg (by omega), kn_nat, List.getD, List.getElem?_take, if_neg hk]; rfl
theorem kn_drop (r : List (Int × Bool)) (m : Nat) {i : Int} (h : 0 ≤ i) : kn (r.drop m) i = kn r (i + m) := by
  obtain ⟨k, rfl⟩ := Int.eq_ofNat_of_zero_le h
  rw [show (k : Int) + (m : Int) = ((m + k : Nat) : Int) by omega, kn_nat, kn_nat, List.getD, List.getD, List.getElem?_drop]
theorem kn_map (m : List Int) (b : Bool) (i : Int) : kn (m.map fun s => (s, b)) i = (decide (0 ≤ i ∧ i < m.length) && b) := by
  rcases Int.lt_or_le i 0 with h | h
  · rw [kn_neg _ h, decide_eq_false (by omega)]; rfl
  · obtain ⟨k, rfl⟩ := Int.eq_ofNat_of_zero_le h
    rw [kn_nat, List.getD]
    by_cases hk : k < m.length
    · rw [decide_eq_true (by omega), List.getElem?_map, List.getElem?_eq_getElem hk]; rfl
    · rw [decide_eq_false (by omega), List.getElem?_eq_none (by simpa using hk)]; rfl
theorem kn_set (r : List (Int × Bool)) (j : Nat) (x : Int) (b : Bool) (i : Int) (hj : j < r.length) : kn (r.set j (x, b)) i = if i = j then b else kn r i := by
  rcases Int.lt_or_le i 0 with h | h
  · rw [kn_neg _ h, kn_neg r h, if_neg (by omega)]
  · obtain ⟨k, rfl⟩ := Int.eq_ofNat_of_zero_le h
    rw [kn_nat, kn_nat, List.getD, List.getD, List.getElem?_set]
    by_cases hk : j = k
    · subst hk; rw [if_pos rfl, if_pos rfl, if_pos hj]; rfl
    · rw [if_neg hk, if_neg (by omega)]

/-- a list of spans holds the rows that are known -/
structure IsSet (r : List (Int × Bool)) (xs : List S.Sp) : Prop where
  val : S.Val (-1) xs
  has : ∀ i, S.hasB xs i = kn r i
theorem IsSet.nil : IsSet [] [] := ⟨trivial, fun i => by unfold kn; simp [S.hasB]⟩
theorem end_in {l : Int} {xs : List S.Sp} (h : S.Val l xs) (hne : xs ≠ []) : S.hasB xs (S.endOf l xs - 1) = true := by
  induction xs generalizing l with
  | nil => exact absurd rfl hne
  | cons s r ih =>
    obtain ⟨h1, h2, h3, h4⟩ := h
    rw [S.hasB_cons]
    show (_ || S.hasB r (S.endOf s.2 r - 1)) = true
    cases r with
    | nil => show (decide (s.1 ≤ s.2 - 1 ∧ s.2 - 1 < s.2) || _) = true; rw [decide_eq_true (by omega)]; rfl
    | cons t r => rw [ih h4 (by simp), Bool.or_true]
theorem IsSet.endle {r : List (Int × Bool)} {xs : List S.Sp} (h : IsSet r xs) : S.endOf (-1) xs ≤ r.length := by
  by_cases hx : xs = []
  · subst hx; show (-1 : Int) ≤ _; omega
  · have h1 := end_in h.val hx
    rw [h.has] at h1
    rcases Int.lt_or_le (S.endOf (-1) xs - 1) r.length with h2 | h2
    · omega
    · rw [kn_out r h2] at h1; cases h1
theorem IsSet.len {r : List (Int × Bool)} {xs : List S.Sp} (h : IsSet r xs) : xs.length ≤ r.length + 1 := by
  have h1 := S.val_len h.val
  have h2 := h.endle
  omega
theorem IsSet.chk {r : List (Int × Bool)} {xs : List S.Sp} (h : IsSet r xs) (hr : r.length ≤ 1024) : S.chk xs = 0 := S.chk_of_val h.val (by have := h.len; omega)
theorem set_one {a b : Int} (h0 : 0 ≤ a) (h1 : a < b) (h2 : b ≤ 1073741824) : S.Val (-1) [(a, b)] := ⟨by show (-1 : Int) < a; omega, h1, h2, trivial⟩
theorem kn_mid (r : List (Int × Bool)) {a : Nat} (ha : a ≤ r.length) (m : List Int) (b : Bool) (i : Int) :
    kn (r.take a ++ (m.map fun s => (s, b)) ++ r.drop a) i = if i < a then kn r i else if i < a + m.length then b else kn r (i - m.length) := by
  have hta : (r.take a).length = a := by rw [List.length_take]; omega
  rw [List.append_assoc, kn_app, hta, kn_app, List.length_map, kn_take, kn_map]
  by_cases h1 : i < a
  · rw [if_pos h1, if_pos h1, if_pos h1]
  · rw [if_neg h1, if_neg h1]
    by_cases h2 : i < a + m.length
    · rw [if_pos h2, if_pos (by omega), decide_eq_true (by omega), Bool.true_and]
    · rw [if_neg h2, if_neg (by omega), kn_drop _ _ (by omega)]
      congr 1; omega
/-- rows are put in -/
theorem ins_gap {r : List (Int × Bool)} {xs : List S.Sp} (h : IsSet r xs) {a : Nat} (ha : a ≤ r.length) (m : List Int) (i : Int) :
    S.insM xs a m.length i = kn (r.take a ++ (m.map fun s => (s, false)) ++ r.drop a) i := by
  rw [kn_mid r ha]
  unfold S.insM
  rw [h.has, h.has]
theorem ins_kn {r : List (Int × Bool)} {xs ys : List S.Sp} (h : IsSet r xs) {a : Nat} (ha : a ≤ r.length) (m : List Int) (hy : ∀ i, S.hasB ys i = S.insM xs a m.length i) (b : Bool) (i : Int) :
    (if b then (S.hasB ys i || S.hasB [((a : Int), (a : Int) + m.length)] i) else (S.hasB ys i && !S.hasB [((a : Int), (a : Int) + m.length)] i)) = kn (r.take a ++ (m.map fun s => (s, b)) ++ r.drop a) i := by
  rw [hy, ins_gap h ha, S.hasB_one, kn_mid r ha, kn_mid r ha]
  by_cases h1 : i < a
  · rw [if_pos h1, if_pos h1, decide_eq_false (p := _ ∧ _) (by show ¬ ((a : Int) ≤ i ∧ i < (a : Int) + m.length); omega)]
    cases b <;> simp
  · rw [if_neg h1, if_neg h1]
    by_cases h2 : i < a + m.length
    · rw [if_pos h2, if_pos h2, decide_eq_true (p := _ ∧ _) (by show (a : Int) ≤ i ∧ i < (a : Int) + m.length; omega)]
      cases b <;> simp
    · rw [if_neg h2, if_neg h2, decide_eq_false (p := _ ∧ _) (by show ¬ ((a : Int) ≤ i ∧ i < (a : Int) + m.length); omega)]
      cases b <;> simp
/-- rows are taken out -/
theorem rem_kn {r : List (Int × Bool)} {xs : List S.Sp} (h : IsSet r xs) {a n : Nat} (ha : a + n ≤ r.length) (i : Int) : S.remM xs a n i = kn (r.take a ++ r.drop (a + n)) i := by
  have hta : (r.take a).length = a := by rw [List.length_take]; omega
  rw [kn_app, hta, kn_take]
  unfold S.remM
  rw [h.has, h.has]
  by_cases h1 : i < a
  · rw [if_pos h1, if_pos h1, if_pos h1]
  · rw [if_neg h1, if_neg h1, kn_drop _ _ (by omega)]
    congr 1; omega
/-- rows are moved -/
theorem mov_kn {r R1 : List (Int × Bool)} {xs ys ms : List S.Sp} (h : IsSet R1 xs) {a n x : Nat} (ha : a + n ≤ r.length) (hx : x ≤ R1.length) (hy : ∀ i, S.hasB ys i = S.insM xs x n i)
    (hm : ∀ i, S.hasB ms i = (decide ((x : Int) ≤ i ∧ i < (x : Int) + n) && kn r (i - x + a))) (i : Int) :
    (S.hasB ys i || S.hasB ms i) = kn (R1.take x ++ (r.drop a).take n ++ R1.drop x) i := by
  have hta : (R1.take x).length = x := by rw [List.length_take]; omega
  have htb : ((r.drop a).take n).length = n := by rw [List.length_take, List.length_drop]; omega
  rw [hy, hm, List.append_assoc, kn_app, hta, kn_app, htb, kn_take]
  unfold S.insM
  rw [h.has, h.has]
  by_cases h1 : i < x
  · rw [if_pos h1, if_pos h1, if_pos h1, decide_eq_false (by omega)]; simp
  · rw [if_neg h1, if_neg h1]
    by_cases h2 : i < x + n
    · rw [if_pos h2, if_pos (by omega), decide_eq_true (by omega), kn_take, if_pos (by omega), kn_drop _ _ (by omega)]; simp
    · rw [if_neg h2, if_neg (by omega), decide_eq_false (by omega), kn_drop _ _ (by omega)]
      simp only [Bool.false_and, Bool.or_false]
      congr 1; omega
/-- a row is set -/
theorem set_kn {r : List (Int × Bool)} {xs : List S.Sp} (h : IsSet r xs) {j : Nat} (hj : j < r.length) (x : Int) (b : Bool) (i : Int) :
    (if b then (S.hasB xs i || S.hasB [((j : Int), (j : Int) + 1)] i) else (S.hasB xs i && !S.hasB [((j : Int), (j : Int) + 1)] i)) = kn (r.set j (x, b)) i := by
  rw [kn_set _ _ _ _ _ hj, h.has, S.hasB_one]
  by_cases h1 : i = j
  · rw [if_pos h1, decide_eq_true (by show (j : Int) ≤ i ∧ i < (j : Int) + 1; omega)]; cases b <;> simp
  · rw [if_neg h1, decide_eq_false (by show ¬ ((j : Int) ≤ i ∧ i < (j : Int) + 1); omega)]; cases b <;> simp
end Go.Proofs.Ytdejdnkkbpmmlaa
