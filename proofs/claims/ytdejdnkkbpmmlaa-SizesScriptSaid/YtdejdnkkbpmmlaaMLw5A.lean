/- The memory of the law SizesScript. -/
import Derived.Test.YtdejdnkkbpmmlaaMOpenS
import Derived.Deep.CutBlock
namespace Go.Proofs.Ytdejdnkkbpmmlaa
open Go.RowKit

structure L5s (w W : World) (g : Nat) (A : Option Addr) (c : Nat) (l : List (Int × Bool)) (t : T) (p IA : Option Addr) (ic : Nat) (xs : List S.Sp) : Prop where
  vx : Vx w W g l t p IA ic xs
  s : SlR W A c l
  hg : w.heap.size ≤ g
theorem L5s.next {w W : World} {g : Nat} {A : Option Addr} {c : Nat} {l : List (Int × Bool)} {t : T} {p IA : Option Addr} {ic : Nat} {xs : List S.Sp} {W' : World} (h : L5s w W g A c l t p IA ic xs) (kk : Below W.heap.size W W') : L5s w W' g A c l t p IA ic xs := ⟨h.vx.next kk, h.s.below kk, h.hg⟩
theorem L5s.lt {w W : World} {g : Nat} {A : Option Addr} {c : Nat} {l : List (Int × Bool)} {t : T} {p IA : Option Addr} {ic : Nat} {xs : List S.Sp} (h : L5s w W g A c l t p IA ic xs) : g < W.heap.size := heap_lt h.vx.bx
structure S5 (w W : World) (g sb gn : Nat) (A : Option Addr) (c : Nat) (l : List (Int × Bool)) (t : T) (p IA : Option Addr) (ic : Nat) (xs : List S.Sp) (kind : Nat) (at_ n x size : Int) (ZA : Option Addr) (sc : Nat) (zs : List Int) : Prop where
  m : L5s w W g A c l t p IA ic xs
  rd : RdR W gn A l
  st : W.heap[sb]? = some (.cells #[.int .u8 kind, .int .i64 at_, .int .i64 n, .int .i64 x, .int .i64 size, .slice ZA zs.length sc] 55 (0, 0))
  rm : Room5 W gn
  gl : g < gn
  sl : SlZ W ZA sc zs
  fx : Far gn IA xs
theorem S5.gnlt {w W : World} {g sb gn : Nat} {A : Option Addr} {c : Nat} {l : List (Int × Bool)} {t : T} {p IA : Option Addr} {ic : Nat} {xs : List S.Sp} {kind : Nat} {at_ n x size : Int} {ZA : Option Addr} {sc : Nat} {zs : List Int} (h : S5 w W g sb gn A c l t p IA ic xs kind at_ n x size ZA sc zs) : gn < W.heap.size := by
  obtain ⟨_, _, _, _, _, hr⟩ := h.rm
  exact heap_lt hr
theorem S5.next {w W : World} {g sb gn : Nat} {A : Option Addr} {c : Nat} {l : List (Int × Bool)} {t : T} {p IA : Option Addr} {ic : Nat} {xs : List S.Sp} {kind : Nat} {at_ n x size : Int} {ZA : Option Addr} {sc : Nat} {zs : List Int} {W' : World} (h : S5 w W g sb gn A c l t p IA ic xs kind at_ n x size ZA sc zs) (kk : Below W.heap.size W W') : S5 w W' g sb gn A c l t p IA ic xs kind at_ n x size ZA sc zs :=
  ⟨h.m.next kk, h.rd.below (kk.mono (Nat.le_of_lt h.gnlt)), keep_heap kk h.st, h.rm.keep kk, h.gl, h.sl.below kk, h.fx⟩
theorem S5.cells {w W : World} {g sb gn : Nat} {A : Option Addr} {c : Nat} {l : List (Int × Bool)} {t : T} {p IA : Option Addr} {ic : Nat} {xs : List S.Sp} {kind : Nat} {at_ n x size : Int} {ZA : Option Addr} {sc : Nat} {zs : List Int} (h : S5 w W g sb gn A c l t p IA ic xs kind at_ n x size ZA sc zs) :
    W.cell? ⟨sb, 0, none⟩ = some (.int .u8 kind) ∧ W.cell? ⟨sb, 1, none⟩ = some (.int .i64 at_) ∧ W.cell? ⟨sb, 2, none⟩ = some (.int .i64 n) ∧ W.cell? ⟨sb, 3, none⟩ = some (.int .i64 x) ∧ W.cell? ⟨sb, 4, none⟩ = some (.int .i64 size) ∧ W.cell? ⟨sb, 5, none⟩ = some (.slice ZA zs.length sc) :=
  ⟨cell_of_row W sb 0 _ 55 (0, 0) h.st, cell_of_row W sb 1 _ 55 (0, 0) h.st, cell_of_row W sb 2 _ 55 (0, 0) h.st, cell_of_row W sb 3 _ 55 (0, 0) h.st, cell_of_row W sb 4 _ 55 (0, 0) h.st, cell_of_row W sb 5 _ 55 (0, 0) h.st⟩
theorem size_set5 (W : World) (g : Nat) (a0 a1 a2 a3 a4 : Value) : W.heap.size ≤ (((((W.setCell ⟨g, 0, none⟩ a0).setCell ⟨g, 1, none⟩ a1).setCell ⟨g, 2, none⟩ a2).setCell ⟨g, 3, none⟩ a3).setCell ⟨g, 4, none⟩ a4).heap.size := (below_set5 (B := 0) (Below.refl 0 W) (Nat.zero_le _)).size
theorem slR_set5 {W : World} {g c : Nat} {A : Option Addr} {l : List (Int × Bool)} {a0 a1 a2 a3 a4 : Value} (h : SlR W A c l) (hA : ∀ k < l.length, ∀ a, A = some a → a.block ≠ g) :
    SlR (((((W.setCell ⟨g, 0, none⟩ a0).setCell ⟨g, 1, none⟩ a1).setCell ⟨g, 2, none⟩ a2).setCell ⟨g, 3, none⟩ a3).setCell ⟨g, 4, none⟩ a4) A c l :=
  ⟨fun k hk => by
    obtain ⟨b, o, e, h1, h2, h3⟩ := h.rd k hk
    have hb : b ≠ g := hA k hk ⟨b, o, none⟩ e
    exact ⟨b, o, e, Nat.lt_of_lt_of_le h1 (size_set5 W g a0 a1 a2 a3 a4), cell_set5 (p := ⟨b, _, none⟩) hb h2, cell_set5 (p := ⟨b, _, none⟩) hb h3⟩, h.le, h.max, h.nil⟩
structure A5 (w W : World) (g gn : Nat) (A : Option Addr) (c : Nat) (l : List (Int × Bool)) (t : T) (p IA : Option Addr) (ic : Nat) (xs : List S.Sp) (r : List (Int × Bool)) (t2 : T) (p2 I2 : Option Addr) (ic2 : Nat) (xs2 : List S.Sp) (A2 : Option Addr) (c2 : Nat) : Prop where
  m : L5s w W g A c l t p IA ic xs
  n : Vx w W gn r t2 p2 I2 ic2 xs2
  s2 : SlR W A2 c2 r
  fa : ∀ a, A2 = some a → gn < a.block
  gl : g < gn
  f2 : Far g I2 xs2
theorem A5.next {w W : World} {g : Nat} {A : Option Addr} {c : Nat} {l : List (Int × Bool)} {t : T} {p IA : Option Addr} {ic : Nat} {xs : List S.Sp} {W' : World} {gn : Nat} {r : List (Int × Bool)} {t2 : T} {p2 I2 : Option Addr} {ic2 : Nat} {xs2 : List S.Sp} {A2 : Option Addr} {c2 : Nat} (h : A5 w W g gn A c l t p IA ic xs r t2 p2 I2 ic2 xs2 A2 c2) (kk : Below W.heap.size W W') : A5 w W' g gn A c l t p IA ic xs r t2 p2 I2 ic2 xs2 A2 c2 :=
  ⟨h.m.next kk, h.n.next kk, h.s2.below kk, h.fa, h.gl, h.f2⟩
theorem S5.set {w W : World} {g sb gn : Nat} {A : Option Addr} {c : Nat} {l : List (Int × Bool)} {t : T} {p IA : Option Addr} {ic : Nat} {xs : List S.Sp} {kind : Nat} {at_ n x size : Int} {ZA : Option Addr} {sc : Nat} {zs : List Int} (h : S5 w W g sb gn A c l t p IA ic xs kind at_ n x size ZA sc zs) {r : List (Int × Bool)} {t2 : T} {p2 I2 : Option Addr} {ic2 : Nat} {xs2 : List S.Sp} {A2 : Option Addr} {c2 : Nat}
    (hx : Ix W r t2 p2 I2 ic2 xs2) (s2 : SlR W A2 c2 r) (fa : ∀ a, A2 = some a → gn < a.block) (f1 : Far gn I2 xs2) (f2 : Far g I2 xs2) :
    A5 w (((((W.setCell ⟨gn, 0, none⟩ (.int .i64 t2.count)).setCell ⟨gn, 1, none⟩ (.int .i64 t2.total)).setCell ⟨gn, 2, none⟩ (.int .i64 t2.depth)).setCell ⟨gn, 3, none⟩ (.pointer p2)).setCell ⟨gn, 4, none⟩ (.slice I2 xs2.length ic2)) g gn A c l t p IA ic xs r t2 p2 I2 ic2 xs2 A2 c2 :=
  have hu := below_set5 (a0 := .int .i64 t2.count) (a1 := .int .i64 t2.total) (a2 := .int .i64 t2.depth) (a3 := .pointer p2) (a4 := .slice I2 xs2.length ic2) h.m.vx.u (Nat.le_trans h.m.hg (Nat.le_of_lt h.gl))
  ⟨⟨⟨⟨h.m.vx.ix.nd.set5 h.rm, h.m.vx.ix.ls, rd_set5 h.m.vx.ix.rd h.fx, h.m.vx.ix.set, h.m.vx.ix.cap, h.m.vx.ix.vr⟩, far_set5 (Nat.ne_of_lt h.gl) h.m.vx.bx, hu⟩, slR_set5 h.m.s (fun k hk a ha => by
      obtain ⟨b, o, e, h1, _⟩ := h.rd k hk
      rw [ha] at e
      injection e with e
      subst e
      exact Nat.ne_of_lt h1), h.m.hg⟩,
   ⟨⟨hx.nd.set5 h.rm, hx.ls, rd_set5 hx.rd f1, hx.set, hx.cap, hx.vr⟩, heap_set5 h.rm, hu⟩, slR_set5 s2 (fun _ _ a ha => Nat.ne_of_gt (fa a ha)), fa, h.gl, f2⟩
theorem A5.take {w W : World} {g : Nat} {A : Option Addr} {c : Nat} {l : List (Int × Bool)} {t : T} {p IA : Option Addr} {ic : Nat} {xs : List S.Sp} {gn : Nat} {r : List (Int × Bool)} {t2 : T} {p2 I2 : Option Addr} {ic2 : Nat} {xs2 : List S.Sp} {A2 : Option Addr} {c2 : Nat} (h : A5 w W g gn A c l t p IA ic xs r t2 p2 I2 ic2 xs2 A2 c2) :
    L5s w (((((W.setCell ⟨g, 0, none⟩ (.int .i64 t2.count)).setCell ⟨g, 1, none⟩ (.int .i64 t2.total)).setCell ⟨g, 2, none⟩ (.int .i64 t2.depth)).setCell ⟨g, 3, none⟩ (.pointer p2)).setCell ⟨g, 4, none⟩ (.slice I2 xs2.length ic2)) g A2 c2 r t2 p2 I2 ic2 xs2 :=
  ⟨h.m.vx.set h.n.ix h.f2 h.m.hg, slR_set5 h.s2 (fun _ _ a ha => Nat.ne_of_gt (Nat.lt_trans h.gl (h.fa a ha))), h.m.hg⟩
end Go.Proofs.Ytdejdnkkbpmmlaa
