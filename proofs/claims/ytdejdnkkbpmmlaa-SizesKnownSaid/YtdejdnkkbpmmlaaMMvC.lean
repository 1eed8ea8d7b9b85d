/- Rows that are moved, and moved back. -/
import Derived.Test.YtdejdnkkbpmmlaaMRefA
namespace Go.Proofs.Ytdejdnkkbpmmlaa
open Go.RowKit

theorem movI_ok {r : List (Int × Bool)} {a n x : Nat} (h1 : a + n ≤ r.length) (h2 : x + n ≤ r.length) :
    movI r a n x = ((r.take a ++ r.drop (a + n)).take x ++ (r.drop a).take n ++ (r.take a ++ r.drop (a + n)).drop x, 0) := by
  unfold movI
  rw [if_pos (partE_ok h1), if_pos (by rw [Int.toNat_natCast]; exact partE_ok (n := 0) (by omega))]
  simp only [Int.toNat_natCast]
theorem remI_ok {r : List (Int × Bool)} {a n : Nat} (h1 : a + n ≤ r.length) : remI r a n = (r.take a ++ r.drop (a + n), 0) := by
  unfold remI
  rw [if_pos (partE_ok h1)]
  simp only [Int.toNat_natCast]
theorem parts_of {α : Type} (r : List α) {a n : Nat} (h1 : a + n ≤ r.length) : ∃ P B S : List α, r = P ++ (B ++ S) ∧ P.length = a ∧ B.length = n ∧ r.take a = P ∧ (r.drop a).take n = B ∧ r.drop (a + n) = S := by
  refine ⟨r.take a, (r.drop a).take n, r.drop (a + n), ?_, by rw [List.length_take]; omega, by rw [List.length_take, List.length_drop]; omega, rfl, rfl, rfl⟩
  rw [← List.drop_drop, List.take_append_drop, List.take_append_drop]
theorem mov_back {r : List (Int × Bool)} {a n x : Nat} (h1 : a + n ≤ r.length) (h2 : x + n ≤ r.length) :
    ∃ m d : List (Int × Bool), movI r a n x = (m, 0) ∧ movI m x n a = (r, 0) ∧ m.length = r.length ∧ (sz m).sum = (sz r).sum ∧ remI r a n = (d, 0) ∧ (sz d).sum = (sz r).sum - (pre (sz r) (a + n) - pre (sz r) a) := by
  obtain ⟨P, B, S, hr, hP, hB, e1, e2, e3⟩ := parts_of r h1
  rw [movI_ok h1 h2, remI_ok h1, e1, e2, e3]
  have hl : (P ++ S).length + n = r.length := by rw [hr]; simp; omega
  have hQR : (P ++ S).take x ++ (P ++ S).drop x = P ++ S := List.take_append_drop _ _
  have hQ : ((P ++ S).take x).length = x := by rw [List.length_take]; omega
  generalize (P ++ S).take x = Q at *
  generalize (P ++ S).drop x = R at *
  have hm : (Q ++ B ++ R).length = r.length := by
    have : (Q ++ R).length = (P ++ S).length := by rw [hQR]
    simp at this hl ⊢
    omega
  refine ⟨Q ++ B ++ R, P ++ S, rfl, ?_, hm, ?_, rfl, ?_⟩
  · rw [movI_ok (by rw [hm]; exact h2) (by rw [hm]; exact h1)]
    have f1 : (Q ++ B ++ R).take x = Q := by rw [List.append_assoc, ← hQ, List.take_left]
    have f2 : (Q ++ B ++ R).drop (x + n) = R := by rw [← hQ, ← hB, ← List.length_append, List.drop_left]
    have f3 : ((Q ++ B ++ R).drop x).take n = B := by rw [List.append_assoc, ← hQ, List.drop_left, ← hB, List.take_left]
    rw [f1, f2, f3, hQR, ← hP, List.take_left, List.drop_left, hr, List.append_assoc]
  · have h := congrArg (fun l => (sz l).sum) hQR
    simp only [sz_app, List.sum_append] at h
    rw [hr]
    simp only [sz_app, List.sum_append]
    omega
  · have h3 : pre (sz r) a = (sz P).sum := by
      unfold pre
      rw [← sz_take, e1]
    have h4 : pre (sz r) (a + n) = (sz P).sum + (sz B).sum := by
      unfold pre
      rw [← sz_take, hr, ← List.append_assoc, ← hP, ← hB, ← List.length_append, List.take_left, sz_app, List.sum_append]
    rw [h3, h4, hr]
    simp only [sz_app, List.sum_append]
    omega
end Go.Proofs.Ytdejdnkkbpmmlaa
