/- What the law SpansMoves leans on: marks of insertions and removals; the places that go. -/
import Derived.Test.YtbkfebnggomhdaaMarkW
import Derived.Test.YtbkfebnggomhdaaInsR
import Derived.Test.YtbkfebnggomhdaaT3Aux
namespace Go.Proofs.Ytbkfebnggomhdaa
open Go.RowKit
theorem mkd_neg {ms : List Bool} {i : Int} (h : i < 0) : mkd ms i = false := by unfold mkd; rw [decide_eq_false (by omega)]; rfl
theorem mkd_of (ms : List Bool) (j : Nat) : mkd ms (j : Int) = ms.getD j false := by
  unfold mkd; rw [decide_eq_true (Int.natCast_nonneg j)]; simp
theorem mof_mk {L : List Sp} {n : Nat} (hv : Val (-1) L) (he : endOf (-1) L ≤ n) (i : Int) : mkd (mof L n) i = hasB L i := by
  by_cases hi : i < 0
  · rw [mkd_neg hi, hasB_lo hv (by omega)]
  · obtain ⟨j, rfl⟩ := Int.eq_ofNat_of_zero_le (by omega : 0 ≤ i)
    rw [mkd_of]
    by_cases hj : j < n
    · simp [mof, List.getD, hj]
    · rw [getD_big (by rw [mof_len]; omega), hasB_hi hv (by omega)]
theorem insB_len {ms : List Bool} {a n : Nat} (ha : a < ms.length) : (insB ms a n).length = ms.length + n := by
  unfold insB; simp only [List.length_append, List.length_take, List.length_replicate, List.length_drop]; omega
theorem remB_len {ms : List Bool} {a n : Nat} : (remB ms a n).length ≤ ms.length + 0 := by
  unfold remB; simp only [List.length_append, List.length_take, List.length_drop]; omega
theorem insB_mk {ms : List Bool} {a n : Nat} (ha : a < ms.length) (i : Int) : mkd (insB ms a n) i = if i < a then mkd ms i else if i < a + n then false else mkd ms (i - n) := by
  by_cases hi : i < 0
  · rw [if_pos (by omega), mkd_neg hi, mkd_neg hi]
  · obtain ⟨j, rfl⟩ := Int.eq_ofNat_of_zero_le (by omega : 0 ≤ i)
    have htl : (ms.take a).length = a := by rw [List.length_take]; omega
    rw [mkd_of]
    unfold insB
    by_cases h1 : j < a
    · rw [if_pos (by omega), mkd_of, List.getD, List.getD, List.getElem?_append_left (by rw [List.length_append, htl]; omega), List.getElem?_append_left (by omega), List.getElem?_take, if_pos h1]
    · rw [if_neg (by omega)]
      by_cases h2 : j < a + n
      · rw [if_pos (by omega), List.getD, List.getElem?_append_left (by rw [List.length_append, htl, List.length_replicate]; omega), List.getElem?_append_right (by omega), htl, List.getElem?_replicate, if_pos (by omega)]
        rfl
      · rw [if_neg (by omega), show (j : Int) - n = ((j - n : Nat) : Int) from by omega, mkd_of, List.getD, List.getD, List.getElem?_append_right (by rw [List.length_append, htl, List.length_replicate]; omega),
          List.length_append, htl, List.length_replicate, List.getElem?_drop, show a + (j - (a + n)) = j - n from by omega]
theorem remB_mk {ms : List Bool} {a n : Nat} (ha : a < ms.length) (i : Int) : mkd (remB ms a n) i = if i < a then mkd ms i else mkd ms (i + n) := by
  by_cases hi : i < 0
  · rw [if_pos (by omega), mkd_neg hi, mkd_neg hi]
  · obtain ⟨j, rfl⟩ := Int.eq_ofNat_of_zero_le (by omega : 0 ≤ i)
    have htl : (ms.take a).length = a := by rw [List.length_take]; omega
    rw [mkd_of]
    unfold remB
    by_cases h1 : j < a
    · rw [if_pos (by omega), mkd_of, List.getD, List.getD, List.getElem?_append_left (by omega), List.getElem?_take, if_pos h1]
    · rw [if_neg (by omega), show (j : Int) + n = ((j + n : Nat) : Int) from by omega, mkd_of, List.getD, List.getD, List.getElem?_append_right (by omega), htl, List.getElem?_drop, show a + n + (j - a) = j + n from by omega]
/-- how many places are gone, so far -/
def gn (L : List Sp) (a : Nat) : Nat → Int
  | 0 => 0
  | k + 1 => gn L a k + (if hasB L ((a : Int) + k) = true then 1 else 0)
theorem gn_bd (L : List Sp) (a : Nat) : ∀ k, 0 ≤ gn L a k ∧ gn L a k ≤ k
  | 0 => by simp [gn]
  | k + 1 => by
    have := gn_bd L a k
    unfold gn; split <;> omega
theorem gn_t {L : List Sp} {a k : Nat} (h : hasB L ((a : Int) + k) = true) : gn L a (k + 1) = gn L a k + 1 := by
  show gn L a k + _ = _; rw [if_pos h]
theorem gn_f {L : List Sp} {a k : Nat} (h : hasB L ((a : Int) + k) = false) : gn L a (k + 1) = gn L a k := by
  show gn L a k + _ = _; rw [if_neg (by rw [h]; simp)]; omega
theorem gn_cnt (L : List Sp) {a : Nat} (ha : a ≤ 1000) : ∀ k : Nat, k ≤ 1000 → cntN (fun i => hasB L i && decide ((a : Int) ≤ i ∧ i < a + k)) 1073741824 = gn L a k
  | 0, _ => cntN_none (fun i _ _ => by rw [decide_eq_false (p := (a : Int) ≤ i ∧ i < a + ((0 : Nat) : Int)) (by omega), Bool.and_false])
  | k + 1, hk => by
    have ih := gn_cnt L ha k (by omega)
    have e1 : cntN (fun i => hasB L i && decide ((a : Int) ≤ i ∧ i < a + ((k + 1 : Nat) : Int))) 1073741824 = cntN (fun i => (hasB L i && decide ((a : Int) ≤ i ∧ i < a + k)) || (hasB L i && decide (i = (a : Int) + k))) 1073741824 := cntN_congr (fun i _ _ => by
      have hd : decide ((a : Int) ≤ i ∧ i < a + ((k + 1 : Nat) : Int)) = (decide ((a : Int) ≤ i ∧ i < a + k) || decide (i = (a : Int) + k)) := by
        rw [Bool.eq_iff_iff]; simp only [Bool.or_eq_true, decide_eq_true_eq]; omega
      rw [hd]
      exact Bool.and_or_distrib_left ..)
    have e3 := cntN_add (f := fun i => hasB L i && decide ((a : Int) ≤ i ∧ i < a + k)) (g := fun i => hasB L i && decide (i = (a : Int) + k)) (n := 1073741824) (fun i _ _ => by
      by_cases h : i = (a : Int) + k
      · rw [decide_eq_false (p := (a : Int) ≤ i ∧ i < a + k) (by omega)]; simp
      · rw [decide_eq_false h]; simp)
    rw [e1, e3, ih]
    cases hb : hasB L ((a : Int) + k) with
    | true =>
      rw [gn_t hb]
      have e2 : cntN (fun i => hasB L i && decide (i = (a : Int) + k)) 1073741824 = cntN (fun i => decide (i = (a : Int) + k)) 1073741824 := cntN_congr (fun i _ _ => by
        by_cases h : i = (a : Int) + k
        · rw [h, hb]; rfl
        · rw [decide_eq_false h]; simp)
      have e4 := cntN_point (a := (a : Int) + k) (n := 1073741824) (by omega) (by omega)
      rw [e2, e4]
    | false =>
      have e5 : cntN (fun i => hasB L i && decide (i = (a : Int) + k)) 1073741824 = 0 := cntN_none (fun i _ _ => by
        by_cases h : i = (a : Int) + k
        · rw [h, hb]; rfl
        · rw [decide_eq_false h]; simp)
      rw [gn_f hb, e5]
      exact Int.add_zero _
/-- all that the walk needs of the sets -/
structure Mv (L La Lb : List Sp) (a n : Nat) : Prop where
  v : Val (-1) L
  va : Val (-1) La
  vb : Val (-1) Lb
  ha : ∀ i, hasB La i = insM L a n i
  hb : ∀ i, hasB Lb i = remM L a n i
  en : endOf (-1) L ≤ 300
  le : L.length ≤ 301
  la : La.length ≤ 602
  lb : Lb.length ≤ 602
theorem Mv.ex {ps : List Bool} {L : List Sp} (h : MkSet ps L) (hl : ps.length ≤ 300) (a n : Nat) (ha : a ≤ 255) (hn : n ≤ 255) : ∃ La Lb, Mv L La Lb a n := by
  have h1 := h.len
  have hE : endOf (-1) L ≤ 300 := by
    by_cases hne : L = []
    · subst hne; show (-1 : Int) ≤ 300; omega
    · have h2 := hasB_last h.1 hne
      rw [h.2] at h2
      rcases Int.lt_or_le (endOf (-1) L - 1) ps.length with h3 | h3
      · omega
      · rw [mk_hi h3] at h2; cases h2
  obtain ⟨La, ia, l1⟩ := ins_ex (a := (a : Int)) (n := (n : Int)) h.1 (by omega) (by omega) (.inr (by omega)) L.length (Nat.le_refl _)
  obtain ⟨Lb, ib, l2⟩ := rem_ex (a := (a : Int)) (n := (n : Int)) h.1 (by omega) (by omega) (by omega) L.length (Nat.le_refl _)
  have q1 := ia.ho
  have q2 := ib.ho
  rw [List.take_length] at q1 q2
  exact ⟨La, Lb, h.1, ia.vo, ib.vo, q1, q2, hE, by omega, by omega, by omega⟩
section
variable {L La Lb : List Sp} {a n : Nat}
theorem Mv.mkA (h : Mv L La Lb a n) (ha : a ≤ 255) : MkSet (insB (mof L (400 + n)) a n) La := ⟨h.va, fun i => by
  have hl := mof_len L (400 + n)
  have he := h.en
  rw [insB_mk (by omega), mof_mk h.v (by omega), mof_mk h.v (by omega), h.ha]; rfl⟩
theorem Mv.mkB (h : Mv L La Lb a n) (ha : a ≤ 255) : MkSet (remB (mof L (400 + n)) a n) Lb := ⟨h.vb, fun i => by
  have hl := mof_len L (400 + n)
  have he := h.en
  rw [remB_mk (by omega), mof_mk h.v (by omega), mof_mk h.v (by omega), h.hb]; rfl⟩
theorem Mv.cA (h : Mv L La Lb a n) : cnt La = cnt L := by
  have := h.la; have := h.le
  rw [cnt_ok (chk_of_val h.v (by omega)), cnt_ok (chk_of_val h.va (by omega))]
  exact ins_cnt h.v (by omega) (by omega) h.va h.ha
theorem Mv.cB (h : Mv L La Lb a n) (ha : a ≤ 255) (hn : n ≤ 255) : cnt Lb = cnt L - gn L a n := by
  have := h.lb; have := h.le
  rw [cnt_ok (chk_of_val h.v (by omega)), cnt_ok (chk_of_val h.vb (by omega)), rem_cnt h.v (by omega) (by omega) h.vb h.hb, gn_cnt L (by omega) n (by omega)]
theorem Mv.inA (h : Mv L La Lb a n) (ha : a ≤ 255) (hn : n ≤ 255) : inC L a n = 0 := by
  have := h.le; have := h.en
  unfold inC
  rw [if_pos (chk_of_val h.v (by omega)), if_pos ⟨okP_t (by omega) (by omega), okP_t (by omega) (by omega)⟩, if_pos (.inr (by omega))]
theorem Mv.rmB (h : Mv L La Lb a n) (ha : a ≤ 255) (hn : n ≤ 255) : rmC L a n = 0 := by
  have := h.le
  unfold rmC
  rw [if_pos (chk_of_val h.v (by omega)), if_pos ⟨okP_t (by omega) (by omega), okP_t (by omega) (by omega)⟩]
theorem Mv.rmA (h : Mv L La Lb a n) (ha : a ≤ 255) (hn : n ≤ 255) : rmC La a n = 0 := by
  have := h.la
  unfold rmC
  rw [if_pos (chk_of_val h.va (by omega)), if_pos ⟨okP_t (by omega) (by omega), okP_t (by omega) (by omega)⟩]
theorem Mv.back (h : Mv L La Lb a n) (i : Int) : remM La a n i = hasB L i := back_same (by omega) h.ha i
end
end Go.Proofs.Ytbkfebnggomhdaa
