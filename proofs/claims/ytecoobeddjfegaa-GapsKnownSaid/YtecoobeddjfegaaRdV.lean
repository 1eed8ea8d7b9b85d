/- A slice that reads as a list of values. -/
import Derived.Test.YtecoobeddjfegaaLay
namespace Go.Proofs.Ytecoobeddjfegaa
open Go.RowKit

/-- The slice at A reads as the list ys, all of it below block B. -/
def RdV (w : World) (B : Nat) (A : Option Addr) (ys : List Value) : Prop :=
  ∀ k (h : k < ys.length), ∃ b o, A = some ⟨b, o, none⟩ ∧ b < B ∧ w.cell? ⟨b, o + k, none⟩ = some ys[k]
section
variable {w w' : World} {B : Nat} {A : Option Addr} {ys : List Value}
theorem RdV.nil : RdV w B A [] := fun k h => absurd h (by simp)
theorem RdV.cells {a o : Nat} (h : RdV w B (some ⟨a, o, none⟩) ys) (hk : ∀ k, a < B → w'.cell? ⟨a, k, none⟩ = w.cell? ⟨a, k, none⟩) :
    ∀ j v, ys[j]? = some v → w'.cell? ((⟨a, o, none⟩ : Addr).add j) = some v := by
  intro j v hv
  obtain ⟨hj, rfl⟩ := List.getElem?_eq_some_iff.1 hv
  obtain ⟨b', o', e, hb, hc⟩ := h j hj
  injection e with e
  injection e with e1 e2
  subst e1; subst e2
  rw [add_plain, hk _ hb]
  exact hc
theorem RdV.below (h : RdV w B A ys) (hb : Below B w w') : RdV w' B A ys := fun k hk => by
  obtain ⟨b, o, e, hl, hc⟩ := h k hk
  exact ⟨b, o, e, hl, (hb.cell (p := ⟨b, o + k, none⟩) hl).trans hc⟩
theorem RdV.next (h : RdV w w.heap.size A ys) (hb : Below w.heap.size w w') : RdV w' w'.heap.size A ys := fun k hk => by
  obtain ⟨b, o, e, hl, hc⟩ := h.below hb k hk
  exact ⟨b, o, e, Nat.lt_of_lt_of_le hl hb.size, hc⟩
theorem RdV.row {g : Nat} {T : TypeId} (h : w.heap[g]? = some (.cells ys.toArray T (0, 0))) : RdV w w.heap.size (some ⟨g, 0, none⟩) ys := fun k hk => by
  refine ⟨g, 0, rfl, lt_of_block h, ?_⟩
  rw [Nat.zero_add, cell_of_row w g k _ T (0, 0) h]
  simp [hk]
theorem RdV.lit {T : TypeId} {cs : Array Value} (h : ys.toArray = cs) : RdV (w.alloc (.cells cs T)) (w.alloc (.cells cs T)).heap.size (some ⟨w.heap.size, 0, none⟩) ys := by
  subst h
  exact RdV.row (T := T) (heap_alloc_new w _)
end
section
variable {T D : TypeId} {w w' : World} {b S N g e n : Nat} {A : Option Addr} {xs : List Value}
theorem Buf.frame (h : Buf T D w b A S N g e n xs) (h1 : w'.heap[b]? = w.heap[b]?) (h2 : 0 < N → w'.heap[S]? = w.heap[S]?) : Buf T D w' b A S N g e n xs :=
  ⟨h1.trans h.box, fun hN => by
    obtain ⟨hA, vals, hr, hl⟩ := h.row hN
    exact ⟨hA, vals, (h2 hN).trans hr, hl⟩, h.zero, h.len, h.ge, h.gn, h.eN, h.s1, h.s2, h.max, h.one, h.ne⟩
theorem Buf.lt (h : Buf T D w b A S N g e n xs) (hN : 0 < N) : S < w.heap.size := by
  obtain ⟨_, vals, hr, _⟩ := h.row hN
  exact lt_of_block hr
theorem Buf.alloc (h : Buf T D w b A S N g e n xs) (o : Obj) : Buf T D (w.alloc o) b A S N g e n xs :=
  h.frame (Below.heap_alloc w o b (lt_of_block h.box)) (fun hN => Below.heap_alloc w o S (h.lt hN))
theorem Buf.below (h : Buf T D w b A S N g e n xs) (hb : Below w.heap.size w w') : Buf T D w' b A S N g e n xs :=
  h.frame (hb.block b (lt_of_block h.box)) (fun hN => hb.block S (h.lt hN))
end
end Go.Proofs.Ytecoobeddjfegaa
