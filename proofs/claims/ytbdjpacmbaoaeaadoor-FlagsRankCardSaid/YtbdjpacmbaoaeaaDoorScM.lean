/- What the law FlagsScript leans on: steps, and what is kept. -/
import Derived.Test.YtbdjpacmbaoaeaaDoorRefM
import Derived.Test.YtbdjpacmbaoaeaaDoorRankL
namespace Go.Proofs.YtbdjpacmbaoaeaaDoor
open Go.RowKit S

/-- a step: its kind, its three numbers -/
structure Step where
  kind : Nat
  at_ : Int
  n : Int
  x : Int
structure Step.Ok (s : Step) : Prop where
  k : s.kind ≤ 255
  a0 : -9223372036854775808 ≤ s.at_
  a1 : s.at_ ≤ 9223372036854775807
  n0 : -9223372036854775808 ≤ s.n
  n1 : s.n ≤ 9223372036854775807
  x0 : -9223372036854775808 ≤ s.x
  x1 : s.x ≤ 9223372036854775807
/-- the slice at A reads as the steps xs -/
def RdSt (w : World) (B : Nat) (A : Option Addr) (xs : List Step) : Prop :=
  ∀ k (h : k < xs.length), ∃ b o, A = some ⟨b, o, none⟩ ∧ b < B ∧ w.cell? ⟨b, o + k * 4, none⟩ = some (.int .u8 (xs[k].kind : Int)) ∧ w.cell? ⟨b, o + k * 4 + 1, none⟩ = some (.int .i64 xs[k].at_) ∧
    w.cell? ⟨b, o + k * 4 + 2, none⟩ = some (.int .i64 xs[k].n) ∧ w.cell? ⟨b, o + k * 4 + 3, none⟩ = some (.int .i64 xs[k].x) ∧ xs[k].Ok
theorem RdSt.below {w w' : World} {B : Nat} {A : Option Addr} {xs : List Step} (h : RdSt w B A xs) (hb : Below B w w') : RdSt w' B A xs := fun k hk => by
  obtain ⟨b, o, e, h0, h1, h2, h3, h4, h5⟩ := h k hk
  exact ⟨b, o, e, h0, (hb.cell (p := ⟨b, _, none⟩) h0).trans h1, (hb.cell (p := ⟨b, _, none⟩) h0).trans h2, (hb.cell (p := ⟨b, _, none⟩) h0).trans h3, (hb.cell (p := ⟨b, _, none⟩) h0).trans h4, h5⟩
/-- a step of the call's own, at block p -/
structure Stp (W : World) (p : Nat) (s : Step) : Prop where
  c0 : W.cell? ⟨p, 0, none⟩ = some (.int .u8 (s.kind : Int))
  c1 : W.cell? ⟨p, 1, none⟩ = some (.int .i64 s.at_)
  c2 : W.cell? ⟨p, 2, none⟩ = some (.int .i64 s.n)
  c3 : W.cell? ⟨p, 3, none⟩ = some (.int .i64 s.x)
theorem Stp.lt {W : World} {p : Nat} {s : Step} (h : Stp W p s) : p < W.heap.size := World.block_lt_of_cell? W _ h.c0
theorem Stp.heap {W W' : World} {p : Nat} {s : Step} (h : Stp W p s) (e : W'.heap[p]? = W.heap[p]?) : Stp W' p s := by
  have hc : ∀ j, W'.cell? ⟨p, j, none⟩ = W.cell? ⟨p, j, none⟩ := fun j => by unfold World.cell?; simp only [e]
  exact ⟨(hc 0).trans h.c0, (hc 1).trans h.c1, (hc 2).trans h.c2, (hc 3).trans h.c3⟩
theorem Stp.below {W W' : World} {p : Nat} {s : Step} (h : Stp W p s) (hb : Below W.heap.size W W') : Stp W' p s := h.heap (hb.block p h.lt)
/-- a row of bools lies in no block of flags -/
theorem rdb_fr {w w' : World} {B b n : Nat} {A : Option Addr} {xs : List Bool} {ws : List Nat} (h : RdB w B A xs) (hB : B ≤ w.heap.size) (hw : Raw w b n ws) (hf : Fr w w' b) : RdB w' B A xs := fun k hk => by
  obtain ⟨g, o, e, hg, c0⟩ := h k hk
  have hne : g ≠ b := by
    rintro rfl
    rw [cell_of_row _ _ _ _ 64 (0, 0) hw.box] at c0
    simp only [List.getElem?_toArray] at c0
    have hm := List.mem_of_getElem? c0
    simp only [fcells, List.mem_cons, List.mem_map] at hm
    rcases hm with hm | ⟨x, _, hm⟩
    · cases hm
    · cases hm
  exact ⟨g, o, e, hg, by
    unfold World.cell?
    simp only [hf.block g (Nat.lt_of_lt_of_le hg hB) hne]
    exact c0⟩
theorem SlB.ch {w w' : World} {b : Nat} {l m : List Bool} {A : Option Addr} {c : Nat} {xs : List Bool} {e : Ending} (h : SlB w A c xs) (hw : Fl w b l) (hc : Ch w b m e w') : SlB w' A c xs :=
  ⟨(rdb_fr h.rd (Nat.le_refl _) hw hc.2.2).more hc.2.2.size, h.le, h.nil, h.flat⟩
theorem SlB.drewN {w : World} {A : Option Addr} {c : Nat} {xs : List Bool} (h : SlB w A c xs) (k : Nat) : SlB (w.drewN k) A c xs := ⟨h.rd, h.le, h.nil, h.flat⟩
end Go.Proofs.YtbdjpacmbaoaeaaDoor
