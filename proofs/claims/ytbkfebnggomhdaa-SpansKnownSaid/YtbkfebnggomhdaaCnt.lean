/- How many places a set has. -/
import Derived.Test.YtbkfebnggomhdaaSet
namespace Go.Proofs.Ytbkfebnggomhdaa

/-- how many places below n are in f -/
def cntN (f : Int → Bool) : Nat → Int
  | 0 => 0
  | n + 1 => cntN f n + if f n = true then 1 else 0
theorem cntN_congr {f g : Int → Bool} : ∀ {n : Nat}, (∀ i : Int, 0 ≤ i → i < n → f i = g i) → cntN f n = cntN g n
  | 0, _ => rfl
  | n + 1, h => by
    unfold cntN
    rw [cntN_congr (n := n) (fun i h0 h1 => h i h0 (by omega)), h n (by omega) (by omega)]
theorem cntN_or (f g : Int → Bool) : ∀ n : Nat, cntN (fun i => f i || g i) n + cntN (fun i => f i && g i) n = cntN f n + cntN g n
  | 0 => rfl
  | n + 1 => by
    have := cntN_or f g n
    unfold cntN
    cases f n <;> cases g n <;> simp <;> omega
theorem cntN_none {f : Int → Bool} : ∀ {n : Nat}, (∀ i : Int, 0 ≤ i → i < n → f i = false) → cntN f n = 0
  | 0, _ => rfl
  | n + 1, h => by
    unfold cntN
    rw [cntN_none (n := n) (fun i h0 h1 => h i h0 (by omega)), h n (by omega) (by omega)]
    rfl
theorem cntN_add {f g : Int → Bool} {n : Nat} (h : ∀ i : Int, 0 ≤ i → i < n → (f i && g i) = false) : cntN (fun i => f i || g i) n = cntN f n + cntN g n := by
  have h1 := cntN_or f g n
  have h2 := cntN_none (f := fun i => f i && g i) h
  omega
theorem cntN_iv {a b : Int} (h0 : 0 ≤ a) (h1 : a ≤ b) : ∀ {n : Nat}, cntN (fun i => decide (a ≤ i ∧ i < b)) n = min b n - min a n
  | 0 => by show (0 : Int) = _; omega
  | n + 1 => by
    unfold cntN
    rw [cntN_iv h0 h1]
    by_cases h : a ≤ (n : Int) ∧ (n : Int) < b
    · rw [if_pos (decide_eq_true h)]; omega
    · rw [if_neg (by simpa using h)]; omega
theorem sumB_acc (xs : List Sp) : ∀ acc : Int, sumB acc xs = acc + sumB 0 xs := by
  induction xs with
  | nil => intro acc; show acc = acc + 0; omega
  | cons s r ih =>
    intro acc
    show sumB (acc + (s.2 - s.1)) r = acc + sumB (0 + (s.2 - s.1)) r
    rw [ih (acc + (s.2 - s.1)), ih (0 + (s.2 - s.1))]; omega
theorem sumB_cons (s : Sp) (r : List Sp) : sumB 0 (s :: r) = (s.2 - s.1) + sumB 0 r := by
  show sumB (0 + (s.2 - s.1)) r = _
  rw [sumB_acc]; omega
theorem sumB_cnt {l : Int} {xs : List Sp} (h : Val l xs) (hl : -1 ≤ l) : sumB 0 xs = cntN (hasB xs) 1073741824 := by
  induction xs generalizing l with
  | nil => exact (cntN_none (fun _ _ _ => rfl)).symm
  | cons s r ih =>
    obtain ⟨h1, h2, h3, h4⟩ := h
    have e : cntN (hasB (s :: r)) 1073741824 = cntN (fun i => decide (s.1 ≤ i ∧ i < s.2) || hasB r i) 1073741824 := cntN_congr (fun i _ _ => hasB_cons)
    rw [e, cntN_add (fun i _ _ => ?_), cntN_iv (by omega) (by omega), sumB_cons, ih h4 (by omega)]
    · omega
    · by_cases hi : i ≤ s.2
      · rw [hasB_lo h4 hi, Bool.and_false]
      · rw [decide_eq_false (by omega)]; rfl
theorem sumB_len {l : Int} {xs : List Sp} (h : Val l xs) : (xs.length : Int) ≤ sumB 0 xs := by
  induction xs generalizing l with
  | nil => exact Int.le_refl _
  | cons s r ih =>
    obtain ⟨h1, h2, h3, h4⟩ := h
    have := ih h4
    rw [sumB_cons]; simp only [List.length_cons]; omega
theorem cnt_cnt {xs : List Sp} (h : Val (-1) xs) (hl : xs.length ≤ 4096) : cnt xs = cntN (hasB xs) 1073741824 := by
  rw [cnt_ok (chk_of_val h hl), sumB_cnt h (by omega)]

/-- how many different numbers are among the first k -/
def dcTo (zs : List Int) : Nat → Int
  | 0 => 0
  | k + 1 => dcTo zs k + if zs.getD k 0 ∈ zs.take k then 0 else 1
theorem dcTo_le (zs : List Int) : ∀ k, 0 ≤ dcTo zs k ∧ dcTo zs k ≤ k
  | 0 => ⟨Int.le_refl _, Int.le_refl _⟩
  | k + 1 => by
    have := dcTo_le zs k
    unfold dcTo
    split <;> omega
theorem dcTo_cnt {zs : List Int} (hz : ∀ z ∈ zs, 0 ≤ z ∧ z < 1073741824) : ∀ k, k ≤ zs.length → cntN (fun i => decide (i ∈ zs.take k)) 1073741824 = dcTo zs k
  | 0, _ => cntN_none (fun _ _ _ => by simp)
  | k + 1, hk => by
    have hlt : k < zs.length := by omega
    have ih := dcTo_cnt hz k (by omega)
    have hget : zs.getD k 0 = zs[k] := by simp [List.getD, List.getElem?_eq_getElem hlt]
    have htk : zs.take (k + 1) = zs.take k ++ [zs[k]] := by rw [List.take_succ_eq_append_getElem hlt]
    obtain ⟨z0, z1⟩ := hz _ (List.getElem_mem hlt)
    unfold dcTo
    rw [hget, htk, ← ih]
    generalize zs[k] = x at *
    have e : cntN (fun i => decide (i ∈ zs.take k ++ [x])) 1073741824 = cntN (fun i => decide (i ∈ zs.take k) || decide (x ≤ i ∧ i < x + 1)) 1073741824 := cntN_congr (fun i _ _ => by
      rw [Bool.eq_iff_iff]
      simp only [List.mem_append, List.mem_singleton, Bool.or_eq_true, decide_eq_true_eq]
      constructor
      · rintro (h | h)
        · exact .inl h
        · exact .inr (by omega)
      · rintro (h | h)
        · exact .inl h
        · exact .inr (by omega))
    rw [e]
    by_cases hx : x ∈ zs.take k
    · rw [if_pos hx]
      rw [cntN_congr (g := fun i => decide (i ∈ zs.take k)) (fun i _ _ => ?_)]
      · omega
      · by_cases hi : x ≤ i ∧ i < x + 1
        · obtain rfl : i = x := by omega
          rw [decide_eq_true hx]; rfl
        · rw [decide_eq_false hi, Bool.or_false]
    · rw [if_neg hx, cntN_add (fun i _ _ => ?_), cntN_iv z0 (by omega)]
      · omega
      · by_cases hi : x ≤ i ∧ i < x + 1
        · obtain rfl : i = x := by omega
          rw [decide_eq_false hx]; rfl
        · rw [decide_eq_false hi, Bool.and_false]
end Go.Proofs.Ytbkfebnggomhdaa
