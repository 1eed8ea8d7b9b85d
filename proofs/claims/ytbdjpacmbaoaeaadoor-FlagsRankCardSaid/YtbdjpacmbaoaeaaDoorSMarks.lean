/- Marks of places and the set that they are. -/
import Derived.Test.YtbdjpacmbaoaeaaDoorSSet
namespace Go.Proofs.YtbdjpacmbaoaeaaDoor.S
/-- is a place marked -/
def mkd (ms : List Bool) (i : Int) : Bool := decide (0 ≤ i) && ms.getD i.toNat false
/-- the set of the marked places, so far -/
structure OfM (ms : List Bool) (k : Nat) (out : List Sp) : Prop where
  vo : Val (-1) out
  ho : ∀ i, hasB out i = (decide (i < k) && mkd ms i)
  last : endOf (-1) out ≤ k
theorem OfM.start (ms : List Bool) : OfM ms 0 [] := ⟨trivial, fun i => by
  unfold mkd
  by_cases h : i < 0
  · rw [decide_eq_false (p := 0 ≤ i) (by omega)]; simp [hasB]
  · rw [decide_eq_false (p := i < ((0 : Nat) : Int)) (by omega)]; rfl, by show (-1 : Int) ≤ 0; omega⟩
theorem mk_nat (ms : List Bool) {k : Nat} (h : k < ms.length) : mkd ms k = ms[k] := by
  unfold mkd
  rw [decide_eq_true (Int.natCast_nonneg k)]
  simp [List.getD, List.getElem?_eq_getElem h]
theorem lt_succ_split (i : Int) (k : Nat) : decide (i < ((k + 1 : Nat) : Int)) = (decide (i < (k : Int)) || decide (i = (k : Int))) := by
  rw [Bool.eq_iff_iff]; simp only [Bool.or_eq_true, decide_eq_true_eq]; omega
theorem OfM.skip {ms : List Bool} {k : Nat} {out : List Sp} (h : OfM ms k out) (hm : mkd ms k = false) : OfM ms (k + 1) out :=
  ⟨h.vo, fun i => by
    rw [h.ho i, lt_succ_split]
    by_cases hi : i = (k : Int)
    · subst hi; rw [hm]; simp
    · rw [decide_eq_false hi, Bool.or_false], by have := h.last; omega⟩
theorem hasB_last {l : Int} {xs : List Sp} (h : Val l xs) (hne : xs ≠ []) : hasB xs (endOf l xs - 1) = true := by
  rcases List.eq_nil_or_concat xs with rfl | ⟨ys, t, rfl⟩
  · exact absurd rfl hne
  · rw [List.concat_eq_append] at *
    obtain ⟨v1, v2, v3, v4⟩ := val_snoc.1 h
    rw [endOf_snoc, hasB_app, hasB_one, decide_eq_true (by omega), Bool.or_true]
theorem OfM.new {ms : List Bool} {k : Nat} {out : List Sp} (h : OfM ms k out) (hm : mkd ms k = true) (hp : k = 0 ∨ mkd ms ((k : Int) - 1) = false) (hk : (k : Int) < 1073741824) : OfM ms (k + 1) (out ++ [((k : Int), (k : Int) + 1)]) := by
  have hend : endOf (-1) out < k := by
    rcases Int.lt_or_le (endOf (-1) out) k with h1 | h1
    · exact h1
    · have he : endOf (-1) out = k := by have := h.last; omega
      by_cases hne : out = []
      · subst hne
        have : (-1 : Int) = k := he
        omega
      · have h2 := hasB_last h.vo hne
        rw [he, h.ho] at h2
        rcases hp with hp | hp
        · subst hp
          simp [mkd] at h2
        · rw [hp] at h2; simp at h2
  refine ⟨val_snoc.2 ⟨h.vo, hend, by show (k : Int) < k + 1; omega, by show (k : Int) + 1 ≤ _; omega⟩, fun i => ?_, by rw [endOf_snoc]; show (k : Int) + 1 ≤ _; omega⟩
  rw [hasB_app, hasB_one, h.ho i, lt_succ_split]
  by_cases hi : i = (k : Int)
  · subst hi; rw [hm, decide_eq_true (p := (k : Int) ≤ k ∧ (k : Int) < k + 1) (by omega)]; simp
  · rw [decide_eq_false hi, Bool.or_false, decide_eq_false (p := (k : Int) ≤ i ∧ i < (k : Int) + 1) (by omega), Bool.or_false]
theorem OfM.grow {ms : List Bool} {k : Nat} {out : List Sp} (h : OfM ms k out) (hm : mkd ms k = true) (hk0 : 0 < k) (hp : mkd ms ((k : Int) - 1) = true) (hk : (k : Int) < 1073741824) :
    0 < out.length ∧ ∃ p, out.getD (out.length - 1) (0, 0) = (p, (k : Int)) ∧ OfM ms (k + 1) (out.set (out.length - 1) (p, (k : Int) + 1)) := by
  have h2 : hasB out ((k : Int) - 1) = true := by rw [h.ho, hp, decide_eq_true (by omega)]; rfl
  rcases List.eq_nil_or_concat out with rfl | ⟨ys, t, rfl⟩
  · simp [hasB] at h2
  · rw [List.concat_eq_append] at *
    obtain ⟨v1, v2, v3, v4⟩ := val_snoc.1 h.vo
    have hl := h.last
    rw [endOf_snoc] at hl
    have ht : t.2 = k := by
      rcases Int.lt_or_le t.2 k with h3 | h3
      · have := hasB_hi h.vo (i := (k : Int) - 1) (by rw [endOf_snoc]; omega)
        rw [this] at h2; cases h2
      · omega
    refine ⟨by simp, t.1, ?_, ?_⟩
    · simp [List.getD]; exact Prod.ext rfl ht
    · have hset : (ys ++ [t]).set ((ys ++ [t]).length - 1) (t.1, (k : Int) + 1) = ys ++ [(t.1, (k : Int) + 1)] := by simp
      rw [hset]
      refine ⟨val_snoc.2 ⟨v1, v2, by show t.1 < (k : Int) + 1; omega, by show (k : Int) + 1 ≤ _; omega⟩, fun i => ?_, by rw [endOf_snoc]; show (k : Int) + 1 ≤ _; omega⟩
      have h5 := h.ho i
      rw [hasB_app, hasB_one] at h5
      rw [hasB_app, hasB_one, lt_succ_split]
      by_cases hi : i = (k : Int)
      · subst hi
        rw [hm, decide_eq_true (p := t.1 ≤ (k : Int) ∧ (k : Int) < (k : Int) + 1) (by omega)]; simp
      · rw [decide_eq_false hi, Bool.or_false, ← h5]
        congr 1
        rw [decide_eq_decide]
        show t.1 ≤ i ∧ i < (k : Int) + 1 ↔ _
        omega
/-- the set of the marked places -/
def MkSet (ms : List Bool) (L : List Sp) : Prop := Val (-1) L ∧ ∀ i, hasB L i = mkd ms i
theorem mk_hi {ms : List Bool} {i : Int} (h : (ms.length : Int) ≤ i) : mkd ms i = false := by
  unfold mkd
  have : ms.length ≤ i.toNat := by omega
  simp [List.getD, List.getElem?_eq_none this]
theorem OfM.done {ms : List Bool} {k : Nat} {out : List Sp} (h : OfM ms k out) (hk : ms.length ≤ k) : MkSet ms out :=
  ⟨h.vo, fun i => by
    rw [h.ho]
    by_cases hi : i < (k : Int)
    · rw [decide_eq_true hi]; rfl
    · rw [mk_hi (by omega)]; simp⟩
theorem OfM.len {ms : List Bool} {k : Nat} {out : List Sp} (h : OfM ms k out) : out.length ≤ k + 1 := by
  have := val_len h.vo
  have := h.last
  omega
theorem MkSet.len {ms : List Bool} {L : List Sp} (h : MkSet ms L) : (L.length : Int) ≤ ms.length + 1 := by
  have h1 := val_len h.1
  by_cases hne : L = []
  · subst hne; simp; omega
  · have h2 := hasB_last h.1 hne
    rw [h.2] at h2
    rcases Int.lt_or_le (endOf (-1) L - 1) ms.length with h3 | h3
    · omega
    · rw [mk_hi h3] at h2; cases h2
end Go.Proofs.YtbdjpacmbaoaeaaDoor.S
