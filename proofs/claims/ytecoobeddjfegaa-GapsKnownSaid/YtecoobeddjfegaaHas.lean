/- A buffer, without its memory's names. -/
import Derived.Test.YtecoobeddjfegaaRdV
namespace Go.Proofs.Ytecoobeddjfegaa
open Go.RowKit

/-- a buffer at block b with the list xs of n elements and the gap at g; all of it from block B to block U - 1 -/
def Has (T D : TypeId) (B U : Nat) (w : World) (b n : Nat) (xs : List Value) (g : Nat) : Prop := B ≤ b ∧ b < U ∧ U ≤ w.heap.size ∧ ∃ A S N e, Buf T D w b A S N g e n xs ∧ B ≤ S ∧ S < U
/-- the list in which k elements at i have been moved to t -/
def moved (xs : List Value) (i k t : Nat) : List Value := (xs.take i ++ xs.drop (i + k)).take t ++ ((xs.drop i).take k ++ (xs.take i ++ xs.drop (i + k)).drop t)
section
variable {T D : TypeId} {B U : Nat} {w w' : World} {b n g : Nat} {xs : List Value}
theorem Has.below (h : Has T D B U w b n xs g) (hb : Below w.heap.size w w') : Has T D B U w' b n xs g := by
  obtain ⟨h1, h3, h4, A, S, N, e, hB, h2⟩ := h
  exact ⟨h1, h3, Nat.le_trans h4 hb.size, A, S, N, e, hB.below hb, h2⟩
theorem Has.drewN (h : Has T D B U w b n xs g) (k : Nat) : Has T D B U (w.drewN k) b n xs g := by
  obtain ⟨h1, h3, h4, A, S, N, e, hB, h2⟩ := h
  exact ⟨h1, h3, h4, A, S, N, e, hB.drewN k, h2⟩
theorem Has.alloc (h : Has T D B U w b n xs g) (o : Obj) : Has T D B U (w.alloc o) b n xs g := h.below ((Below.refl _ w).alloc (Nat.le_refl _) o)
theorem Has.now (h : Has T D B U w b n xs g) : Has T D B w.heap.size w b n xs g := by
  obtain ⟨h1, h3, h4, A, S, N, e, hB, h2, h5⟩ := h
  exact ⟨h1, by omega, Nat.le_refl _, A, S, N, e, hB, h2, by omega⟩
/-- a block outside of the buffer has been changed -/
theorem Has.far (h : Has T D B U w b n xs g) (hs : w.heap.size ≤ w'.heap.size) (hk : ∀ i, B ≤ i → i < U → w'.heap[i]? = w.heap[i]?) : Has T D B U w' b n xs g := by
  obtain ⟨h1, h3, h4, A, S, N, e, hB, h2, h5⟩ := h
  exact ⟨h1, h3, Nat.le_trans h4 hs, A, S, N, e, hB.frame (hk b h1 h3) (fun _ => hk S h2 h5), h2, h5⟩
theorem Has.len (h : Has T D B U w b n xs g) : xs.length = n := by
  obtain ⟨h1, h3, h4, A, S, N, e, hB, h2⟩ := h
  exact hB.len
theorem Has.max (h : Has T D B U w b n xs g) : n ≤ 4096 ∧ g ≤ n := by
  obtain ⟨h1, h3, h4, A, S, N, e, hB, h2⟩ := h
  have := hB.max
  have := hB.s2
  have := hB.ge
  exact ⟨by omega, hB.gn⟩
theorem Has.one (h : Has T D B U w b n xs g) : ∀ v ∈ xs, v.oneCell' = true := by
  obtain ⟨h1, h3, h4, A, S, N, e, hB, h2⟩ := h
  exact hB.one
theorem Has.lo (h : Has T D B U w b n xs g) : B ≤ b ∧ B ≤ w.heap.size := by
  obtain ⟨h1, h3, h4, A, S, N, e, hB, h2⟩ := h
  exact ⟨h1, by omega⟩
theorem below_drewN {B : Nat} {a w : World} (h : Below B a w) (n : Nat) : Below B a (w.drewN n) := ⟨h.os, h.tape, h.output, h.size, h.block⟩
end
end Go.Proofs.Ytecoobeddjfegaa
