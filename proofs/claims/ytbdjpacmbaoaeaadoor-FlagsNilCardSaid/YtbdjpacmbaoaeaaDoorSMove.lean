/- Sets whose places move: insertions and removals. -/
import Derived.Test.YtbdjpacmbaoaeaaDoorSSet
namespace Go.Proofs.YtbdjpacmbaoaeaaDoor.S

theorem LastLe.addS {out : List Sp} {p q x : Int} (hl : LastLe out x x) (hp : p < q → p ≤ x ∧ q ≤ x) (h3 : p < q → LastLe (addS out (p, q)) p q) : LastLe (addS out (p, q)) x x := by
  by_cases h : p < q
  · exact (h3 h).mono (hp h).1 (hp h).2
  · rw [addS_no (by show q ≤ p; omega)]; exact hl

def remM (xs : List Sp) (a n i : Int) : Bool := if i < a then hasB xs i else hasB xs (i + n)
def gR (a n e : Int) : Int := max (min e a) (e - n)
/-- a removal, so far -/
structure Rm (a n : Int) (done out : List Sp) : Prop where
  vd : Val (-1) done
  vo : Val (-1) out
  ho : ∀ i, hasB out i = remM done a n i
  last : LastLe out (gR a n (endOf (-1) done)) (gR a n (endOf (-1) done))
theorem Rm.start (a n : Int) : Rm a n [] [] := ⟨trivial, trivial, fun i => by unfold remM; split <;> rfl, .nil⟩
theorem Rm.step {a n : Int} {done out : List Sp} {s : Sp} (h : Rm a n done out) (ha : 0 ≤ a) (ha2 : a ≤ 1073741824) (hn : 0 ≤ n) (h1 : endOf (-1) done < s.1) (h2 : s.1 < s.2) (h3 : s.2 ≤ 1073741824) :
    Rm a n (done ++ [s]) (addS (addS out (s.1, min s.2 a)) (max s.1 (a + min n (1073741824 - a)) - n, s.2 - n)) := by
  have hge := endOf_ge h.vd
  have hg1 : ∀ e, gR a n e = max (min e a) (e - n) := fun e => rfl
  obtain ⟨x1, x2, x3⟩ := addS_set (out := out) (p := s.1) (q := min s.2 a) h.vo (fun _ => ⟨by omega, by omega, h.last.mono (by rw [hg1]; omega) (by rw [hg1]; omega)⟩)
  have l1 : LastLe (addS out (s.1, min s.2 a)) (max (min s.2 a) (endOf (-1) done - n)) (max (min s.2 a) (endOf (-1) done - n)) :=
    LastLe.addS (h.last.mono (by rw [hg1]; omega) (by rw [hg1]; omega)) (fun _ => ⟨by omega, by omega⟩) x3
  obtain ⟨y1, y2, y3⟩ := addS_set (out := addS out (s.1, min s.2 a)) (p := max s.1 (a + min n (1073741824 - a)) - n) (q := s.2 - n) x1 (fun _ => ⟨by omega, by omega, l1.mono (by omega) (by omega)⟩)
  refine ⟨val_snoc.2 ⟨h.vd, h1, h2, h3⟩, y1, fun i => ?_, ?_⟩
  · rw [y2 i, x2 i, h.ho i]
    unfold remM
    rw [hasB_app, hasB_app, hasB_one, hasB_one]
    by_cases hi : i < a
    · rw [if_pos hi, if_pos hi, decide_eq_false (p := max s.1 (a + min n (1073741824 - a)) - n ≤ i ∧ i < s.2 - n) (by omega), Bool.or_false]
      congr 1
      rw [decide_eq_decide]; omega
    · rw [if_neg hi, if_neg hi, decide_eq_false (p := s.1 ≤ i ∧ i < min s.2 a) (by omega), Bool.or_false]
      congr 1
      rw [decide_eq_decide]; omega
  · rw [endOf_snoc]
    exact LastLe.addS (l1.mono (by rw [hg1]; omega) (by rw [hg1]; omega)) (fun _ => ⟨by rw [hg1]; omega, by rw [hg1]; omega⟩) y3

def insM (xs : List Sp) (a n i : Int) : Bool := if i < a then hasB xs i else if i < a + n then false else hasB xs (i - n)
def gI (a n e : Int) : Int := if e ≤ a then e else e + n
/-- an insertion, so far -/
structure In (a n : Int) (done out : List Sp) : Prop where
  vd : Val (-1) done
  vo : Val (-1) out
  ho : ∀ i, hasB out i = insM done a n i
  last : LastLe out (gI a n (endOf (-1) done)) (gI a n (endOf (-1) done))
theorem In.start (a n : Int) : In a n [] [] := ⟨trivial, trivial, fun i => by unfold insM; split <;> (try split) <;> rfl, .nil⟩
theorem In.step {a n : Int} {done out : List Sp} {s : Sp} (h : In a n done out) (ha : 0 ≤ a) (hn : 0 ≤ n) (h1 : endOf (-1) done < s.1) (h2 : s.1 < s.2) (h3 : s.2 ≤ 1073741824) (h4 : a < s.2 → s.2 + n ≤ 1073741824) :
    In a n (done ++ [s]) (if a < s.2 then addS (addS out (s.1, min s.2 a)) (max s.1 a + n, s.2 + n) else addS out (s.1, min s.2 a)) := by
  have hge := endOf_ge h.vd
  have hg1 : ∀ e, (e ≤ a ∧ gI a n e = e) ∨ (a < e ∧ gI a n e = e + n) := fun e => by unfold gI; split <;> omega
  have g1 := hg1 (endOf (-1) done)
  have g2 := hg1 s.2
  obtain ⟨x1, x2, x3⟩ := addS_set (out := out) (p := s.1) (q := min s.2 a) h.vo (fun _ => ⟨by omega, by omega, h.last.mono (by omega) (by omega)⟩)
  have hd : ∀ i, hasB (done ++ [s]) i = (hasB done i || decide (s.1 ≤ i ∧ i < s.2)) := fun i => by rw [hasB_app, hasB_one]
  have l1 : LastLe (addS out (s.1, min s.2 a)) (max (min s.2 a) (gI a n (endOf (-1) done))) (max (min s.2 a) (gI a n (endOf (-1) done))) :=
    LastLe.addS (h.last.mono (by omega) (by omega)) (fun _ => ⟨by omega, by omega⟩) x3
  by_cases hs : a < s.2
  · rw [if_pos hs]
    have h5 := h4 hs
    obtain ⟨y1, y2, y3⟩ := addS_set (out := addS out (s.1, min s.2 a)) (p := max s.1 a + n) (q := s.2 + n) x1 (fun _ => ⟨by omega, by omega, l1.mono (by omega) (by omega)⟩)
    refine ⟨val_snoc.2 ⟨h.vd, h1, h2, h3⟩, y1, fun i => ?_, ?_⟩
    · rw [y2 i, x2 i, h.ho i]
      unfold insM
      rw [hd, hd]
      by_cases hi : i < a
      · rw [if_pos hi, if_pos hi, decide_eq_false (p := max s.1 a + n ≤ i ∧ i < s.2 + n) (by omega), Bool.or_false]
        congr 1
        rw [decide_eq_decide]; omega
      · rw [if_neg hi, if_neg hi, decide_eq_false (p := s.1 ≤ i ∧ i < min s.2 a) (by omega), Bool.or_false]
        by_cases hj : i < a + n
        · rw [if_pos hj, if_pos hj, decide_eq_false (by omega)]; rfl
        · rw [if_neg hj, if_neg hj]
          congr 1
          rw [decide_eq_decide]; omega
    · rw [endOf_snoc]
      exact LastLe.addS (l1.mono (by omega) (by omega)) (fun _ => ⟨by omega, by omega⟩) y3
  · rw [if_neg hs]
    refine ⟨val_snoc.2 ⟨h.vd, h1, h2, h3⟩, x1, fun i => ?_, ?_⟩
    · rw [x2 i, h.ho i]
      unfold insM
      rw [hd, hd]
      by_cases hi : i < a
      · rw [if_pos hi, if_pos hi]
        congr 1
        rw [decide_eq_decide]; omega
      · rw [if_neg hi, if_neg hi, decide_eq_false (p := s.1 ≤ i ∧ i < min s.2 a) (by omega), Bool.or_false]
        by_cases hj : i < a + n
        · rw [if_pos hj, if_pos hj]
        · rw [if_neg hj, if_neg hj, decide_eq_false (by omega), Bool.or_false]
    · rw [endOf_snoc]
      exact l1.mono (by omega) (by omega)

theorem val_end {l : Int} {xs : List Sp} (h : Val l xs) {k : Nat} (hk : k < xs.length) : xs[k].2 ≤ endOf l xs := by
  induction xs generalizing l k with
  | nil => simp at hk
  | cons s r ih =>
    obtain ⟨h1, h2, h3, h4⟩ := h
    cases k with
    | zero => exact endOf_ge h4
    | succ k => exact ih h4 (by simpa using hk)
theorem end_last {l : Int} {xs : List Sp} (h : 0 < xs.length) : xs[xs.length - 1].2 = endOf l xs := by
  rcases List.eq_nil_or_concat xs with rfl | ⟨ys, t, rfl⟩
  · simp at h
  · simp [endOf_snoc]
theorem room_cases (xs : List Sp) (a n : Int) (_hv : Val (-1) xs) (h : endOf (-1) xs ≤ a ∨ endOf (-1) xs + n ≤ 1073741824) :
    xs.length = 0 ∨ ∃ hp : 0 < xs.length, xs[xs.length - 1].2 = endOf (-1) xs ∧ (endOf (-1) xs ≤ a ∨ endOf (-1) xs + n ≤ 1073741824) := by
  rcases Nat.eq_zero_or_pos xs.length with h0 | h0
  · exact .inl h0
  · exact .inr ⟨h0, end_last h0, h⟩
end Go.Proofs.YtbdjpacmbaoaeaaDoor.S
