/- The memory of the law RopesScript. -/
import Derived.Test.YtfkjnepafgehiaaScA
import Derived.Deep.CutBlock
namespace Go.Proofs.Ytfkjnepafgehiaa
open Go.RowKit

/-- the law's memory -/
structure L4s (w W : World) (g : Nat) (A : Option Addr) (c : Nat) (l : List Int) (t : T) (p : Option Addr) : Prop where
  r : Rp W g l t p
  s : SlI W A c l
  v : Vd l
  u : Below w.heap.size w W
  hg : w.heap.size ≤ g
theorem L4s.next {w W W' : World} {g : Nat} {A : Option Addr} {c : Nat} {l : List Int} {t : T} {p : Option Addr} (h : L4s w W g A c l t p) (kk : Below W.heap.size W W') : L4s w W' g A c l t p :=
  ⟨h.r.next kk, h.s.below kk, h.v, h.u.trans (kk.mono h.u.size), h.hg⟩
theorem L4s.lt {w W : World} {g : Nat} {A : Option Addr} {c : Nat} {l : List Int} {t : T} {p : Option Addr} (h : L4s w W g A c l t p) : g < W.heap.size := heap_lt h.r.box
/-- in a round: the step, and the variable of the next rope -/
structure S4 (w W : World) (g sb gn : Nat) (A : Option Addr) (c : Nat) (l : List Int) (t : T) (p : Option Addr) (kind : Nat) (at_ n x : Int) (S : Option Addr) (sc : Nat) (zs : List Int) : Prop where
  m : L4s w W g A c l t p
  rd : RdI W gn A l
  st : W.heap[sb]? = some (.cells #[.int .u8 kind, .int .i64 at_, .int .i64 n, .int .i64 x, .slice S zs.length sc] 56 (0, 0))
  rm : Room W gn
  gl : g < gn
  sl : SlI W S sc zs
theorem S4.next {w W W' : World} {g sb gn : Nat} {A : Option Addr} {c : Nat} {l : List Int} {t : T} {p : Option Addr} {kind : Nat} {at_ n x : Int} {S : Option Addr} {sc : Nat} {zs : List Int} (h : S4 w W g sb gn A c l t p kind at_ n x S sc zs) (kk : Below W.heap.size W W') : S4 w W' g sb gn A c l t p kind at_ n x S sc zs :=
  ⟨h.m.next kk, fun k hk => by
    obtain ⟨b, o, e, h1, h2⟩ := h.rd k hk
    have hlt : gn < W.heap.size := by
      obtain ⟨_, _, _, _, hr⟩ := h.rm
      exact heap_lt hr
    exact ⟨b, o, e, h1, (kk.cell (p := ⟨b, _, none⟩) (Nat.lt_trans h1 hlt)).trans h2⟩, keep_heap kk h.st, h.rm.keep kk, h.gl, h.sl.below kk⟩
theorem S4.cells {w W : World} {g sb gn : Nat} {A : Option Addr} {c : Nat} {l : List Int} {t : T} {p : Option Addr} {kind : Nat} {at_ n x : Int} {S : Option Addr} {sc : Nat} {zs : List Int} (h : S4 w W g sb gn A c l t p kind at_ n x S sc zs) :
    W.cell? ⟨sb, 0, none⟩ = some (.int .u8 kind) ∧ W.cell? ⟨sb, 1, none⟩ = some (.int .i64 at_) ∧ W.cell? ⟨sb, 2, none⟩ = some (.int .i64 n) ∧ W.cell? ⟨sb, 3, none⟩ = some (.int .i64 x) ∧ W.cell? ⟨sb, 4, none⟩ = some (.slice S zs.length sc) :=
  ⟨cell_of_row W sb 0 _ 56 (0, 0) h.st, cell_of_row W sb 1 _ 56 (0, 0) h.st, cell_of_row W sb 2 _ 56 (0, 0) h.st, cell_of_row W sb 3 _ 56 (0, 0) h.st, cell_of_row W sb 4 _ 56 (0, 0) h.st⟩
theorem S4.gnlt {w W : World} {g sb gn : Nat} {A : Option Addr} {c : Nat} {l : List Int} {t : T} {p : Option Addr} {kind : Nat} {at_ n x : Int} {S : Option Addr} {sc : Nat} {zs : List Int} (h : S4 w W g sb gn A c l t p kind at_ n x S sc zs) : gn < W.heap.size := by
  obtain ⟨_, _, _, _, hr⟩ := h.rm
  exact heap_lt hr
theorem sl_none (W : World) : SlI W none 0 [] := ⟨RdI.nil, Nat.le_refl _, by omega, fun _ => rfl⟩
theorem setR_err (l : List Int) (i x : Int) : (setR l i x).2 ≠ 0 → (setR l i x).1 = [] := by
  unfold setR
  split
  · split
    · intro _; rfl
    · split
      · intro _; rfl
      · intro h; exact absurd rfl h
  · intro _; rfl
theorem SlI.set4 {W : World} {g c : Nat} {A : Option Addr} {l : List Int} {a0 a1 a2 a3 : Value} (h : SlI W A c l) (hA : ∀ a, A = some a → a.block ≠ g) :
    SlI ((((W.setCell ⟨g, 0, none⟩ a0).setCell ⟨g, 1, none⟩ a1).setCell ⟨g, 2, none⟩ a2).setCell ⟨g, 3, none⟩ a3) A c l := by
  refine ⟨fun k hk => ?_, h.le, h.max, h.nil⟩
  obtain ⟨b, o, e, h1, h2⟩ := h.rd k hk
  refine ⟨b, o, e, ?_, cell_set4 (p := ⟨b, _, none⟩) (hA ⟨b, o, none⟩ e) h2⟩
  simpa [World.setCell] using h1
theorem SlI.set4B {W : World} {g c : Nat} {A : Option Addr} {l : List Int} {a0 a1 a2 a3 : Value} (h : SlI W A c l) (hB : RdI W g A l) :
    SlI ((((W.setCell ⟨g, 0, none⟩ a0).setCell ⟨g, 1, none⟩ a1).setCell ⟨g, 2, none⟩ a2).setCell ⟨g, 3, none⟩ a3) A c l := by
  refine ⟨fun k hk => ?_, h.le, h.max, h.nil⟩
  obtain ⟨b, o, e, h1, h2⟩ := h.rd k hk
  obtain ⟨b', o', e', h3, _⟩ := hB k hk
  rw [e] at e'
  cases e'
  refine ⟨b, o, e, ?_, cell_set4 (Nat.ne_of_lt h3) h2⟩
  simpa [World.setCell] using h1
/-- behind the step: the new rope, the new list, both of the same change -/
structure A4 (w W : World) (g gn : Nat) (A : Option Addr) (c : Nat) (l : List Int) (t : T) (p : Option Addr) (r : List Int) (t2 : T) (p2 A2 : Option Addr) (c2 : Nat) : Prop where
  m : L4s w W g A c l t p
  n : Rp W gn r t2 p2
  s2 : SlI W A2 c2 r
  v2 : Vd r
  fa : ∀ a, A2 = some a → gn < a.block
  gl : g < gn
theorem A4.next {w W W' : World} {g gn : Nat} {A : Option Addr} {c : Nat} {l : List Int} {t : T} {p : Option Addr} {r : List Int} {t2 : T} {p2 A2 : Option Addr} {c2 : Nat} (h : A4 w W g gn A c l t p r t2 p2 A2 c2) (kk : Below W.heap.size W W') : A4 w W' g gn A c l t p r t2 p2 A2 c2 :=
  ⟨h.m.next kk, h.n.next kk, h.s2.below kk, h.v2, h.fa, h.gl⟩
/-- the new rope is stored -/
theorem S4.set {w W : World} {g sb gn : Nat} {A : Option Addr} {c : Nat} {l : List Int} {t : T} {p : Option Addr} {kind : Nat} {at_ n x : Int} {S : Option Addr} {sc : Nat} {zs : List Int} (h : S4 w W g sb gn A c l t p kind at_ n x S sc zs)
    {r : List Int} {t2 : T} {p2 A2 : Option Addr} {c2 : Nat} (hn : Nd W t2 p2) (hs : Ls r t2) (s2 : SlI W A2 c2 r) (v2 : Vd r) (fa : ∀ a, A2 = some a → gn < a.block) :
    A4 w ((((W.setCell ⟨gn, 0, none⟩ (.int .i64 t2.count)).setCell ⟨gn, 1, none⟩ (.int .i64 t2.total)).setCell ⟨gn, 2, none⟩ (.int .i64 t2.depth)).setCell ⟨gn, 3, none⟩ (.pointer p2)) g gn A c l t p r t2 p2 A2 c2 := by
  exact ⟨⟨⟨far_set4 (Nat.ne_of_lt h.gl) h.m.r.box, h.m.r.nd.set4 h.rm, h.m.r.ls⟩, SlI.set4B h.m.s h.rd, h.m.v, below_set4 h.m.u (Nat.le_trans h.m.hg (Nat.le_of_lt h.gl)), h.m.hg⟩, ⟨heap_set4 h.rm, hn.set4 h.rm, hs⟩, SlI.set4 s2 fun a ha => Nat.ne_of_gt (fa a ha), v2, fa, h.gl⟩
/-- the new rope and the new list take the place of the old ones -/
theorem A4.take {w W : World} {g gn : Nat} {A : Option Addr} {c : Nat} {l : List Int} {t : T} {p : Option Addr} {r : List Int} {t2 : T} {p2 A2 : Option Addr} {c2 : Nat} (h : A4 w W g gn A c l t p r t2 p2 A2 c2) :
    L4s w ((((W.setCell ⟨g, 0, none⟩ (.int .i64 t2.count)).setCell ⟨g, 1, none⟩ (.int .i64 t2.total)).setCell ⟨g, 2, none⟩ (.int .i64 t2.depth)).setCell ⟨g, 3, none⟩ (.pointer p2)) g A2 c2 r t2 p2 :=
  have hr : Room W g := ⟨_, _, _, _, h.m.r.box⟩
  ⟨⟨heap_set4 hr, h.n.nd.set4 hr, h.n.ls⟩, SlI.set4 h.s2 fun a ha => Nat.ne_of_gt (Nat.lt_trans h.gl (h.fa a ha)), h.v2, below_set4 h.m.u h.m.hg, h.m.hg⟩
end Go.Proofs.Ytfkjnepafgehiaa
