/- Plain mathematics for the law's known lists: up, down, turned. No program. -/
import Derived.Test.YtejgcpohdbiaoaaMov
namespace Go.Proofs.Ytejgcpohdbiaoaa

theorem asc_len {S : List Nat} (h : S.Pairwise (· < ·)) {a b : Nat} (hS : ∀ p ∈ S, a ≤ p ∧ p < b) : S.length ≤ b - a := by
  induction S generalizing a with
  | nil => simp
  | cons x S ih =>
    obtain ⟨h1, h2⟩ := List.pairwise_cons.1 h
    have hx := hS x (by simp)
    have := ih h2 (a := x + 1) fun p hp => ⟨h1 p hp, (hS p (by simp [hp])).2⟩
    simp only [List.length_cons]
    omega
theorem asc_eq {S : List Nat} (h : S.Pairwise (· < ·)) {a b : Nat} (hS : ∀ p ∈ S, a ≤ p ∧ p < b) (hl : b - a ≤ S.length) : S = List.range' a (b - a) := by
  induction S generalizing a with
  | nil =>
    have : b - a = 0 := by simpa using hl
    rw [this]; rfl
  | cons x S ih =>
    obtain ⟨h1, h2⟩ := List.pairwise_cons.1 h
    have hx := hS x (by simp)
    have hr : ∀ p ∈ S, x + 1 ≤ p ∧ p < b := fun p hp => ⟨h1 p hp, (hS p (by simp [hp])).2⟩
    have h3 := asc_len h2 hr
    simp only [List.length_cons] at hl
    obtain rfl : x = a := by omega
    rw [ih h2 hr (by omega), show b - x = (b - (x + 1)) + 1 by omega, List.range'_succ]
theorem asc_range {S : List Nat} (h : S.Pairwise (· < ·)) {m : Nat} (hS : ∀ p ∈ S, p < m) (hl : m ≤ S.length) : S = List.range m := by
  rw [List.range_eq_range']
  have := asc_eq h (a := 0) (b := m) (fun p hp => ⟨Nat.zero_le _, hS p hp⟩) (by omega)
  simpa using this
/-- numbers that go up -/
theorem up_long {l : List Int} (h : ∀ k (hk : k < l.length), l[k] = (k : Int)) : longR l = List.range l.length := by
  have hL := longR_longest l
  refine asc_range hL.up hL.lt ?_
  have := (longR_least (l := l) (T := List.range l.length) (fun p hp => List.mem_range.1 hp) (by
    rw [List.pairwise_iff_getElem]
    intro i j hi hj hij
    simp only [List.length_range] at hi hj
    simp only [List.getElem_range]
    exact ⟨hij, hi, hj, by rw [h i hi, h j hj]; omega⟩)).1
  simpa using this
/-- numbers that go down -/
theorem down_long {l : List Int} (h0 : 0 < l.length) (h : ∀ i j (hi : i < l.length) (hj : j < l.length), i < j → l[j] < l[i]) : longR l = [0] := by
  have hL := longR_longest l
  obtain ⟨h1, h2⟩ := longR_least (l := l) (T := [0]) (by simpa using h0) (by simp)
  rcases hS : longR l with _ | ⟨x, _ | ⟨y, r⟩⟩
  · rw [hS] at h1; simp at h1
  · rw [hS] at h2
    have := h2 rfl
    simp only [Lex] at this
    rcases this with h | h
    · omega
    · rw [h.1]
  · rw [hS] at hL
    have h3 := (List.pairwise_cons.1 hL.up).1 y (by simp)
    obtain ⟨h4, h5, h6⟩ := (List.pairwise_cons.1 hL.rise).1 y (by simp)
    have := h x y h4 h5 h3
    omega
/-- numbers that are turned: d of n numbers lie at the end -/
theorem turned_long {l : List Int} {n d m : Nat} (hn : l.length = n) (hm : m + d = n) (hd : d < m) (h1 : ∀ k (hk : k < l.length), k < m → l[k] = ((k + d : Nat) : Int)) (h2 : ∀ k (hk : k < l.length), m ≤ k → l[k] = ((k - m : Nat) : Int)) : longR l = List.range m := by
  have hL := longR_longest l
  have hlen := (longR_least (l := l) (T := List.range m) (fun p hp => by have := List.mem_range.1 hp; omega) (by
    rw [List.pairwise_iff_getElem]
    intro i j hi hj hij
    simp only [List.length_range] at hi hj
    simp only [List.getElem_range]
    exact ⟨hij, by omega, by omega, by rw [h1 i (by omega) hi, h1 j (by omega) hj]; omega⟩)).1
  rw [List.length_range] at hlen
  refine asc_range hL.up (fun p hp => Decidable.by_contra fun hc => ?_) hlen
  -- one lies at the end: all do
  have hall : ∀ q ∈ longR l, m ≤ q ∧ q < n := fun q hq => by
    have hql := hL.lt q hq
    have hpl := hL.lt p hp
    refine ⟨Decidable.by_contra fun hqm => ?_, by omega⟩
    obtain ⟨i, hi, rfl⟩ := List.getElem_of_mem hp
    obtain ⟨j, hj, rfl⟩ := List.getElem_of_mem hq
    rcases Nat.lt_trichotomy i j with hij | rfl | hij
    · have := List.pairwise_iff_getElem.1 hL.up i j hi hj hij
      omega
    · omega
    · obtain ⟨g1, g2, g3⟩ := List.pairwise_iff_getElem.1 hL.rise j i hj hi hij
      rw [h1 _ g1 (by omega), h2 _ g2 (by omega)] at g3
      omega
  have := asc_len hL.up hall
  omega
theorem posL_up {old now : List Int} (h : ∀ k (hk : k < old.length), old[k] = (k : Int)) (hn : ∀ x ∈ now, 0 ≤ x ∧ x < old.length) : posL old now = now := by
  have hnd : old.Nodup := by
    rw [List.nodup_iff_pairwise_ne, List.pairwise_iff_getElem]
    intro i j hi hj hij
    rw [h i hi, h j hj]
    omega
  unfold posL
  refine (List.map_congr_left fun x hx => ?_).trans (List.map_id _)
  obtain ⟨h1, h2⟩ := hn x hx
  have hk : x.toNat < old.length := by omega
  have := atL_get hnd hk
  rw [h _ hk] at this
  rw [show ((x.toNat : Nat) : Int) = x by omega] at this
  exact this
theorem up_ord {l : List Int} (hl : l.length ≤ 4096) (h : ∀ k (hk : k < l.length), l[k] = (k : Int)) : Ord l := by
  refine ⟨hl, fun x hx => ?_, ?_⟩
  · obtain ⟨i, hi, rfl⟩ := List.getElem_of_mem hx
    rw [h i hi]; omega
  · rw [List.nodup_iff_pairwise_ne, List.pairwise_iff_getElem]
    intro i j hi hj hij
    rw [h i hi, h j hj]
    omega
/-- the moves to where the kept numbers lie first -/
theorem mvJ_pre (now : List Int) (K : List Nat) {i j : Nat} (h : i ≤ j) : ∃ t, mvJ now K j = mvJ now K i ++ t := by
  induction j with
  | zero => obtain rfl : i = 0 := by omega
            exact ⟨[], by simp⟩
  | succ j ih =>
    rcases Nat.lt_or_ge j i with h2 | h2
    · obtain rfl : i = j + 1 := by omega
      exact ⟨[], by simp⟩
    · obtain ⟨t, ht⟩ := ih h2
      exact ⟨t ++ _, by simp only [mvJ]; rw [ht, List.append_assoc]⟩
theorem mvJ_range (now : List Int) (m j : Nat) (hj : j + m ≤ now.length) : (mvJ now (List.range m) j).length = j := by
  induction j with
  | zero => rfl
  | succ j ih =>
    simp only [mvJ, List.length_append]
    rw [ih (by omega), if_neg (by rw [List.mem_range]; omega)]
    rfl
theorem mvJ_get (now : List Int) (m j : Nat) (hj : j + 1 + m ≤ now.length) : (mvJ now (List.range m) now.length)[j]? = some (now.getD (now.length - 1 - j) 0, nxt now (now.length - 1 - j)) := by
  obtain ⟨t, ht⟩ := mvJ_pre now (List.range m) (i := j + 1) (j := now.length) (by omega)
  have h1 := mvJ_range now m j (by omega)
  rw [ht]
  simp only [mvJ]
  rw [if_neg (by rw [List.mem_range]; omega), List.append_assoc, List.getElem?_append_right (by omega), h1, Nat.sub_self]
  rfl
theorem carL_one_end (n : Nat) : carL [1] (List.replicate n (1, -1)) = ([1], 0) := by
  induction n with
  | zero => rfl
  | succ n ih =>
    rw [List.replicate_succ]
    simp only [carL]
    rw [if_pos (by decide), show mvL 1 (-1) [1] = [1] by decide]
    exact ih
end Go.Proofs.Ytejgcpohdbiaoaa
