/- The walk of balance. -/
import Derived.Test.YtdejdnkkbpmmlaaMBase
import Derived.RegionTactic
import Derived.Deep.DeepCutAuto
namespace Go.Proofs.Ytdejdnkkbpmmlaa
open Go.RowKit

/-- the cells of a node -/
def nc (l : T) (pl : Option Addr) (s : Int) (r : T) (pr : Option Addr) : Array Value :=
  #[.int .i64 l.count, .int .i64 l.total, .int .i64 l.depth, .pointer pl, .int .i64 s, .int .i64 r.count, .int .i64 r.total, .int .i64 r.depth, .pointer pr]
theorem gives_at {P : T → Prop} {w0 w : World} {e : Ending} {w' : World} (h : Gives P w e w') (hb : Below w0.heap.size w0 w) : Gives P w0 e w' := by
  obtain ⟨t, p, h1, h2, h3, h4⟩ := h
  exact ⟨t, p, h1, h2, h3, hb.trans (h4.mono hb.size)⟩
theorem nd_cells {w : World} {b : Nat} {l r : T} {pl pr : Option Addr} {s : Int} (h : w.heap[b]? = some (.cells (nc l pl s r pr) 92 (0, 0))) :
    w.cell? ⟨b, 0, none⟩ = some (.int .i64 l.count) ∧ w.cell? ⟨b, 1, none⟩ = some (.int .i64 l.total) ∧ w.cell? ⟨b, 2, none⟩ = some (.int .i64 l.depth) ∧ w.cell? ⟨b, 3, none⟩ = some (.pointer pl) ∧
    w.cell? ⟨b, 4, none⟩ = some (.int .i64 s) ∧ w.cell? ⟨b, 5, none⟩ = some (.int .i64 r.count) ∧ w.cell? ⟨b, 6, none⟩ = some (.int .i64 r.total) ∧ w.cell? ⟨b, 7, none⟩ = some (.int .i64 r.depth) ∧ w.cell? ⟨b, 8, none⟩ = some (.pointer pr) :=
  ⟨cell_of_row w b 0 _ 92 (0, 0) h, cell_of_row w b 1 _ 92 (0, 0) h, cell_of_row w b 2 _ 92 (0, 0) h, cell_of_row w b 3 _ 92 (0, 0) h, cell_of_row w b 4 _ 92 (0, 0) h,
    cell_of_row w b 5 _ 92 (0, 0) h, cell_of_row w b 6 _ 92 (0, 0) h, cell_of_row w b 7 _ 92 (0, 0) h, cell_of_row w b 8 _ 92 (0, 0) h⟩

/-- a cell that is there stays -/
theorem keep_of {w0 w1 : World} (hb : Below w0.heap.size w0 w1) {p : Addr} {v : Value} (h : w0.cell? p = some v) : w1.cell? p = some v :=
  (hb.cell (World.block_lt_of_cell? w0 p h)).trans h
theorem keep_frozen {w0 w1 : World} (hb : Below w0.heap.size w0 w1) {p : Addr} {v : Value} (hc : w0.cell? p = some v) (h : w0.frozen? p = false) : w1.frozen? p = false :=
  (hb.frozen (World.block_lt_of_cell? w0 p hc)).trans h
theorem keep_heap {w0 w1 : World} (hb : Below w0.heap.size w0 w1) {g : Nat} {o : Obj} (h : w0.heap[g]? = some o) : w1.heap[g]? = some o := (hb.block g (heap_lt h)).trans h
/-- four cells of a rope in a variable -/
theorem rc_cells {w : World} {g : Nat} {c x d : Int} {p : Option Addr} (h : w.heap[g]? = some (.cells (rc c x d p) 29 (0, 0))) :
    w.cell? ⟨g, 0, none⟩ = some (.int .i64 c) ∧ w.cell? ⟨g, 1, none⟩ = some (.int .i64 x) ∧ w.cell? ⟨g, 2, none⟩ = some (.int .i64 d) ∧ w.cell? ⟨g, 3, none⟩ = some (.pointer p) :=
  ⟨cell_of_row w g 0 _ 29 (0, 0) h, cell_of_row w g 1 _ 29 (0, 0) h, cell_of_row w g 2 _ 29 (0, 0) h, cell_of_row w g 3 _ 29 (0, 0) h⟩

/-- a variable for a rope -/
def Room (W : World) (g : Nat) : Prop := ∃ v0 v1 v2 v3, W.heap[g]? = some (.cells #[v0, v1, v2, v3] 29 (0, 0))
theorem Room.keep {w0 w1 : World} {g : Nat} (h : Room w0 g) (hb : Below w0.heap.size w0 w1) : Room w1 g := by
  obtain ⟨v0, v1, v2, v3, h⟩ := h
  exact ⟨v0, v1, v2, v3, keep_heap hb h⟩
theorem Room.open_ {W : World} {g : Nat} (h : Room W g) : ∃ v0 v1 v2 v3, W.cell? ⟨g, 0, none⟩ = some v0 ∧ W.cell? ⟨g, 1, none⟩ = some v1 ∧ W.cell? ⟨g, 2, none⟩ = some v2 ∧ W.cell? ⟨g, 3, none⟩ = some v3 ∧
    W.frozen? ⟨g, 0, none⟩ = false ∧ W.frozen? ⟨g, 1, none⟩ = false ∧ W.frozen? ⟨g, 2, none⟩ = false ∧ W.frozen? ⟨g, 3, none⟩ = false := by
  obtain ⟨v0, v1, v2, v3, h⟩ := h
  exact ⟨v0, v1, v2, v3, cell_of_row W g 0 _ 29 (0, 0) h, cell_of_row W g 1 _ 29 (0, 0) h, cell_of_row W g 2 _ 29 (0, 0) h, cell_of_row W g 3 _ 29 (0, 0) h, by simp [World.frozen?, h], by simp [World.frozen?, h], by simp [World.frozen?, h], by simp [World.frozen?, h]⟩
theorem heap_set4 {W : World} {g : Nat} {a0 a1 a2 a3 : Value} (h : Room W g) :
    ((((W.setCell ⟨g, 0, none⟩ a0).setCell ⟨g, 1, none⟩ a1).setCell ⟨g, 2, none⟩ a2).setCell ⟨g, 3, none⟩ a3).heap[g]? = some (.cells #[a0, a1, a2, a3] 29 (0, 0)) := by
  obtain ⟨v0, v1, v2, v3, h⟩ := h
  simp [World.setCell, Array.getElem?_modify, h]
theorem cell_set4 {W : World} {g : Nat} {a0 a1 a2 a3 : Value} {p : Addr} {v : Value} (hp : p.block ≠ g) (h : W.cell? p = some v) :
    ((((W.setCell ⟨g, 0, none⟩ a0).setCell ⟨g, 1, none⟩ a1).setCell ⟨g, 2, none⟩ a2).setCell ⟨g, 3, none⟩ a3).cell? p = some v := by
  rw [World.cell?_setCell_other _ _ _ _ (fun e => hp (by rw [← e])), World.cell?_setCell_other _ _ _ _ (fun e => hp (by rw [← e])), World.cell?_setCell_other _ _ _ _ (fun e => hp (by rw [← e])), World.cell?_setCell_other _ _ _ _ (fun e => hp (by rw [← e]))]
  exact h
theorem below_set4 {B : Nat} {w W : World} {g : Nat} {a0 a1 a2 a3 : Value} (h : Below B w W) (hg : B ≤ g) : Below B w ((((W.setCell ⟨g, 0, none⟩ a0).setCell ⟨g, 1, none⟩ a1).setCell ⟨g, 2, none⟩ a2).setCell ⟨g, 3, none⟩ a3) :=
  (((h.setCell hg _).setCell hg _).setCell hg _).setCell hg _
theorem far_set4 {W : World} {g k : Nat} {a0 a1 a2 a3 : Value} {o : Obj} (hk : k ≠ g) (h : W.heap[k]? = some o) :
    ((((W.setCell ⟨g, 0, none⟩ a0).setCell ⟨g, 1, none⟩ a1).setCell ⟨g, 2, none⟩ a2).setCell ⟨g, 3, none⟩ a3).heap[k]? = some o := by
  rw [Below.heap_setCell _ _ _ k hk, Below.heap_setCell _ _ _ k hk, Below.heap_setCell _ _ _ k hk, Below.heap_setCell _ _ _ k hk]
  exact h

theorem Nd.ne_room {W : World} {g b : Nat} {cs : Array Value} (hr : Room W g) (h : W.heap[b]? = some (.cells cs 92 (0, 0))) : b ≠ g := by
  rintro rfl
  obtain ⟨v0, v1, v2, v3, hr⟩ := hr
  rw [h] at hr
  injection hr with hr
  injection hr with _ ht
  exact absurd ht (by decide)
theorem Nd.set4 {W : World} {g : Nat} {a0 a1 a2 a3 : Value} (hr : Room W g) : ∀ {t : T} {p : Option Addr}, Nd W t p → Nd ((((W.setCell ⟨g, 0, none⟩ a0).setCell ⟨g, 1, none⟩ a1).setCell ⟨g, 2, none⟩ a2).setCell ⟨g, 3, none⟩ a3) t p
  | .nil, _, h => h
  | .node _ _ _, _, ⟨b, pl, pr, e, h, hl, hr'⟩ => ⟨b, pl, pr, e, far_set4 (Nd.ne_room hr h) h, Nd.set4 hr hl, Nd.set4 hr hr'⟩
theorem gives_set {P : T → Prop} {w W : World} {t : T} {p : Option Addr} {g : Nat} (hP : P t) (hn : Nd W t p) (hr : Room W g) (hb : Below w.heap.size w ((((W.setCell ⟨g, 0, none⟩ (.int .i64 t.count)).setCell ⟨g, 1, none⟩ (.int .i64 t.total)).setCell ⟨g, 2, none⟩ (.int .i64 t.depth)).setCell ⟨g, 3, none⟩ (.pointer p))) :
    Gives P w (.returned (.agg (rc t.count t.total t.depth p))) ((((W.setCell ⟨g, 0, none⟩ (.int .i64 t.count)).setCell ⟨g, 1, none⟩ (.int .i64 t.total)).setCell ⟨g, 2, none⟩ (.int .i64 t.depth)).setCell ⟨g, 3, none⟩ (.pointer p)) :=
  ⟨t, p, hP, rfl, hn.set4 hr, hb⟩

set_option maxHeartbeats 2000000 in
theorem spread_any {l a c r : T} {s x y : Int} {pl pa pc pr : Option Addr} {w : World} {b : Nat} (hl : Nd w l pl) (ha : Nd w a pa) (hc : Nd w c pc) (hr : Nd w r pr)
    (hn : w.heap[b]? = some (.cells (nc a pa x c pc) 92 (0, 0))) (ho : Ok (T.node (T.node l s a) x (T.node c y r)).list) :
    Calls Try.prog 76 #[.agg #[.int .i64 l.count, .int .i64 l.total, .int .i64 l.depth, .pointer pl], .int .i64 s, .pointer (some ⟨b, 0, none⟩), .int .i64 y, .agg #[.int .i64 r.count, .int .i64 r.total, .int .i64 r.depth, .pointer pr]] w
      (Gives (· = T.node (T.node l s a) x (T.node c y r)) w) := by
  obtain ⟨h1, h2, h3, h4, h5, h6⟩ := T.parts ho
  obtain ⟨g0, g1, g2, g3, g4, g5, g6, g7, g8⟩ := nd_cells hn
  have HL := Lib.hid hl
  have HA := Lib.hid ha
  have HC := Lib.hid hc
  have HR := Lib.hid hr
  have HO := Lib.hid ho
  have O1 := Lib.hid h1
  have O2 := Lib.hid h2
  have hblt := heap_lt hn
  have hb2 : b ≠ w.heap.size + 1 + 1 := by omega
  have hB0 : Below w.heap.size w (((w.alloc (.cells #[.int .i64 l.count, .int .i64 l.total, .int .i64 l.depth, .pointer pl] 29)).alloc (.cells #[.int .i64 r.count, .int .i64 r.total, .int .i64 r.depth, .pointer pr] 29)).alloc (.cells #[.int .i64 0, .int .i64 0, .int .i64 0, .pointer none] 29)) :=
    (((Below.refl _ _).alloc (Nat.le_refl _) _).alloc (by simp) _).alloc (by simp; omega) _
  have hR0 : Room (((w.alloc (.cells #[.int .i64 l.count, .int .i64 l.total, .int .i64 l.depth, .pointer pl] 29)).alloc (.cells #[.int .i64 r.count, .int .i64 r.total, .int .i64 r.depth, .pointer pr] 29)).alloc (.cells #[.int .i64 0, .int .i64 0, .int .i64 0, .pointer none] 29)) (w.heap.size + 1 + 1) :=
    ⟨_, _, _, _, new_at _ (by simp)⟩
  clear hl ha hc hr h1 h2 hn ho h5 h6
  go_enter Try.func76, Try.ntmps76
  go_wp2_with fail
  go_region_held3 (fun W => Below w.heap.size w W ∧ Room W (w.heap.size + 1 + 1) ∧
      W.cell? ⟨w.heap.size, 0, none⟩ = some (.int .i64 l.count) ∧ W.cell? ⟨w.heap.size, 1, none⟩ = some (.int .i64 l.total) ∧ W.cell? ⟨w.heap.size, 2, none⟩ = some (.int .i64 l.depth) ∧ W.cell? ⟨w.heap.size, 3, none⟩ = some (.pointer pl) ∧
      W.cell? ⟨w.heap.size + 1, 0, none⟩ = some (.int .i64 r.count) ∧ W.cell? ⟨w.heap.size + 1, 1, none⟩ = some (.int .i64 r.total) ∧ W.cell? ⟨w.heap.size + 1, 2, none⟩ = some (.int .i64 r.depth) ∧ W.cell? ⟨w.heap.size + 1, 3, none⟩ = some (.pointer pr) ∧
      W.cell? ⟨b, 0, none⟩ = some (.int .i64 a.count) ∧ W.cell? ⟨b, 1, none⟩ = some (.int .i64 a.total) ∧ W.cell? ⟨b, 2, none⟩ = some (.int .i64 a.depth) ∧ W.cell? ⟨b, 3, none⟩ = some (.pointer pa) ∧ W.cell? ⟨b, 4, none⟩ = some (.int .i64 x) ∧
      W.cell? ⟨b, 5, none⟩ = some (.int .i64 c.count) ∧ W.cell? ⟨b, 6, none⟩ = some (.int .i64 c.total) ∧ W.cell? ⟨b, 7, none⟩ = some (.int .i64 c.depth) ∧ W.cell? ⟨b, 8, none⟩ = some (.pointer pc))
    (first
      | (refine ⟨hB0.drew, hR0, ?_, ?_, ?_, ?_, ?_, ?_, ?_, ?_, ?_, ?_, ?_, ?_, ?_, ?_, ?_, ?_, ?_⟩ <;> first | exact keep_of hB0.drew (by assumption) | simp [go_sem])
      | (have hS := ‹Below w.heap.size w _ ∧ _›; refine ⟨hS.1.trans (kk.mono hS.1.size), hS.2.1.keep kk, ?_, ?_, ?_, ?_, ?_, ?_, ?_, ?_, ?_, ?_, ?_, ?_, ?_, ?_, ?_, ?_, ?_⟩ <;> exact keep_of kk (by simp only [hS]))
      | (have hS := ‹Below w.heap.size w _ ∧ _›; refine ⟨below_set4 hS.1 (by omega), ⟨_, _, _, _, heap_set4 hS.2.1⟩, ?_, ?_, ?_, ?_, ?_, ?_, ?_, ?_, ?_, ?_, ?_, ?_, ?_, ?_, ?_, ?_, ?_⟩ <;> exact cell_set4 (by simp <;> omega) (by simp only [hS])))
    (first
      | (go_at_call_of 71 (Value.agg #[.int .i64 c.count, .int .i64 c.total, .int .i64 c.depth, .pointer pc]); refine (build_any ?_ ?_ O2.out).mono ?_; (exact HC.out.below (‹Below w.heap.size w _ ∧ _›).1); (exact HR.out.below (‹Below w.heap.size w _ ∧ _›).1); rintro e w2 ⟨_, p2, rfl, rfl, n2, kk⟩)
      | (go_at_call_of 71 (Value.agg #[.int .i64 l.count, .int .i64 l.total, .int .i64 l.depth, .pointer pl]); refine (build_any ?_ ?_ O1.out).mono ?_; (exact HL.out.below (‹Below w.heap.size w _ ∧ _›).1); (exact HA.out.below (‹Below w.heap.size w _ ∧ _›).1); rintro e w1 ⟨_, p1, rfl, rfl, n1, kk⟩)
      | (go_at_call_of 71 (Value.pointer p2); refine (build_any ?_ ?_ HO.out).mono ?_; (exact n1.below kk); (exact n2); rintro e w3 ⟨_, p3, rfl, rfl, n3, kk⟩; have hR3 := (‹Below w.heap.size w _ ∧ Room _ _ ∧ _›).2.1.keep kk; obtain ⟨v0, v1, v2, v3, c0, c1, c2, c3, f0, f1, f2, f3⟩ := hR3.open_))
  go_wp2_with fail
  exact bodyPost_ret (res_rope rfl (g := w.heap.size + 1 + 1) rfl (heap_set4 hR3)) rfl (gives_set rfl n3 hR3 (‹Below w.heap.size w _ ∧ _›).1)
end Go.Proofs.Ytdejdnkkbpmmlaa

namespace Go.Proofs.Ytdejdnkkbpmmlaa
open Go.RowKit

set_option maxHeartbeats 2000000 in
theorem clos61 {l r : T} {s : Int} {pl pr : Option Addr} {w : World} {g0 g1 g2 : Nat} (h0 : w.heap[g0]? = some (.cells (rc l.count l.total l.depth pl) 29 (0, 0))) (h1 : w.heap[g1]? = some (.cells #[.int .i64 s] 2 (0, 0)))
    (h2 : w.heap[g2]? = some (.cells (rc r.count r.total r.depth pr) 29 (0, 0))) (hl : Nd w l pl) (hr : Nd w r pr) (ho : Ok (T.node l s r).list) :
    Calls Try.prog 74 #[.pointer (some ⟨g0, 0, none⟩), .pointer (some ⟨g1, 0, none⟩), .pointer (some ⟨g2, 0, none⟩)] w (Gives (· = T.node l s r) w) := by
  obtain ⟨e0, e1, e2, e3⟩ := rc_cells h0
  have q1 := cell_of_one h1
  obtain ⟨i0, i1, i2, i3⟩ := rc_cells h2
  have k0 := heap_lt h0
  have k1 := heap_lt h1
  have k2 := heap_lt h2
  have HL := Lib.hid hl
  have HR := Lib.hid hr
  have HO := Lib.hid ho
  have hR0 : Room (w.alloc (.cells #[.int .i64 0, .int .i64 0, .int .i64 0, .pointer none] 29)) w.heap.size := ⟨_, _, _, _, new_at _ rfl⟩
  have hB0 : Below w.heap.size w (w.alloc (.cells #[.int .i64 0, .int .i64 0, .int .i64 0, .pointer none] 29)) := (Below.refl _ _).alloc (Nat.le_refl _) _
  clear h0 h1 h2 hl hr ho
  go_enter Try.func74, Try.ntmps74
  go_wp2_with fail
  refine (build_any (HL.out.below hB0) (HR.out.below hB0) HO.out).mono ?_
  rintro e w3 ⟨_, p3, rfl, rfl, n3, kk⟩
  have hR3 := hR0.keep kk
  have hb3 := hB0.trans (kk.mono hB0.size)
  obtain ⟨v0, v1, v2, v3, c0, c1, c2, c3, f0, f1, f2, f3⟩ := hR3.open_
  go_wp2_with fail
  exact bodyPost_ret (res_rope rfl (g := w.heap.size) rfl (heap_set4 hR3)) rfl (gives_set rfl n3 hR3 (below_set4 hb3 (Nat.le_refl _)))

set_option maxHeartbeats 2000000 in
theorem clos62 {ll x1 x2 r : T} {ls x s : Int} {pll plr pr : Option Addr} {w : World} {b g0 g1 g2 : Nat} (h0 : w.heap[g0]? = some (.cells #[.pointer (some ⟨b, 0, none⟩)] 27 (0, 0))) (h1 : w.heap[g1]? = some (.cells #[.int .i64 s] 2 (0, 0))) (h2 : w.heap[g2]? = some (.cells (rc r.count r.total r.depth pr) 29 (0, 0)))
    (hn : w.heap[b]? = some (.cells (nc ll pll ls (T.node x1 x x2) plr) 92 (0, 0))) (hll : Nd w ll pll) (hlr : Nd w (T.node x1 x x2) plr) (hr : Nd w r pr) (ho : Ok (T.node (T.node ll ls x1) x (T.node x2 s r)).list) :
    Calls Try.prog 75 #[.pointer (some ⟨g0, 0, none⟩), .pointer (some ⟨g1, 0, none⟩), .pointer (some ⟨g2, 0, none⟩)] w (Gives (· = T.node (T.node ll ls x1) x (T.node x2 s r)) w) := by
  obtain ⟨bx, px1, px2, rfl, hx, hx1, hx2⟩ := hlr
  have q0 := cell_of_one h0
  have q1 := cell_of_one h1
  obtain ⟨e0, e1, e2, e3⟩ := rc_cells h2
  obtain ⟨i0, i1, i2, i3, i4, i5, i6, i7, i8⟩ := nd_cells hn
  have k0 := heap_lt h0
  have k1 := heap_lt h1
  have k2 := heap_lt h2
  have k3 := heap_lt hn
  have k4 := heap_lt hx
  have HX := Lib.hid hx
  have HLL := Lib.hid hll
  have HR := Lib.hid hr
  have HX1 := Lib.hid hx1
  have HX2 := Lib.hid hx2
  have HO := Lib.hid ho
  have hR0 : Room (w.alloc (.cells #[.int .i64 0, .int .i64 0, .int .i64 0, .pointer none] 29)) w.heap.size := ⟨_, _, _, _, new_at _ rfl⟩
  have hB0 : Below w.heap.size w (w.alloc (.cells #[.int .i64 0, .int .i64 0, .int .i64 0, .pointer none] 29)) := (Below.refl _ _).alloc (Nat.le_refl _) _
  clear h0 h1 h2 hn ho hll hr hx1 hx2 hx
  go_enter Try.func75, Try.ntmps75
  go_wp2_with fail
  go_region_held3 (fun W => Below w.heap.size w W ∧ Room W (w.heap.size) ∧ W.cell? ⟨g0, 0, none⟩ = some (.pointer (some ⟨b, 0, none⟩)) ∧ W.cell? ⟨g1, 0, none⟩ = some (.int .i64 s) ∧ W.cell? ⟨g2, 0, none⟩ = some (.int .i64 r.count) ∧ W.cell? ⟨g2, 1, none⟩ = some (.int .i64 r.total) ∧ W.cell? ⟨g2, 2, none⟩ = some (.int .i64 r.depth) ∧ W.cell? ⟨g2, 3, none⟩ = some (.pointer pr) ∧ W.cell? ⟨b, 0, none⟩ = some (.int .i64 ll.count) ∧ W.cell? ⟨b, 1, none⟩ = some (.int .i64 ll.total) ∧ W.cell? ⟨b, 2, none⟩ = some (.int .i64 ll.depth) ∧ W.cell? ⟨b, 3, none⟩ = some (.pointer pll) ∧ W.cell? ⟨b, 4, none⟩ = some (.int .i64 ls) ∧ W.cell? ⟨b, 5, none⟩ = some (.int .i64 (T.node x1 x x2).count) ∧ W.cell? ⟨b, 6, none⟩ = some (.int .i64 (T.node x1 x x2).total) ∧ W.cell? ⟨b, 7, none⟩ = some (.int .i64 (T.node x1 x x2).depth) ∧ W.cell? ⟨b, 8, none⟩ = some (.pointer (some ⟨bx, 0, none⟩)))
    (first
      | (refine ⟨hB0.drew, hR0, ?_, ?_, ?_, ?_, ?_, ?_, ?_, ?_, ?_, ?_, ?_, ?_, ?_, ?_, ?_⟩ <;> first | assumption | exact keep_of hB0.drew (by assumption) | simp [go_sem])
      | (have hS := ‹Below w.heap.size w _ ∧ Room _ _ ∧ _›; refine ⟨hS.1.trans (kk.mono hS.1.size), hS.2.1.keep kk, ?_, ?_, ?_, ?_, ?_, ?_, ?_, ?_, ?_, ?_, ?_, ?_, ?_, ?_, ?_⟩ <;> exact keep_of kk (by simp only [hS]))
      | (have hS := ‹Below w.heap.size w _ ∧ Room _ _ ∧ _›; refine ⟨below_set4 hS.1 (by omega), ⟨_, _, _, _, heap_set4 hS.2.1⟩, ?_, ?_, ?_, ?_, ?_, ?_, ?_, ?_, ?_, ?_, ?_, ?_, ?_, ?_, ?_⟩ <;> exact cell_set4 (by simp <;> omega) (by simp only [hS])))
    (first
      | (go_at_call 76; refine (spread_any ?_ ?_ ?_ ?_ (keep_heap ?_ HX.out) HO.out).mono ?_; (exact HLL.out.below (‹Below w.heap.size w _ ∧ _›).1); (exact HX1.out.below (‹Below w.heap.size w _ ∧ _›).1); (exact HX2.out.below (‹Below w.heap.size w _ ∧ _›).1); (exact HR.out.below (‹Below w.heap.size w _ ∧ _›).1); (exact (‹Below w.heap.size w _ ∧ _›).1); rintro e w3 ⟨_, p3, rfl, rfl, n3, kk⟩; have hR3 := (‹Below w.heap.size w _ ∧ Room _ _ ∧ _›).2.1.keep kk; obtain ⟨v0, v1, v2, v3, c0, c1, c2, c3, f0, f1, f2, f3⟩ := hR3.open_))
  go_wp2_with fail
  exact bodyPost_ret (res_rope rfl (g := w.heap.size) rfl (heap_set4 hR3)) rfl (gives_set rfl n3 hR3 (‹Below w.heap.size w _ ∧ _›).1)

set_option maxHeartbeats 2000000 in
theorem clos64 {ll lr r : T} {ls s : Int} {pll plr pr : Option Addr} {w : World} {b g0 g1 g2 : Nat} (h0 : w.heap[g0]? = some (.cells #[.pointer (some ⟨b, 0, none⟩)] 27 (0, 0))) (h1 : w.heap[g1]? = some (.cells #[.int .i64 s] 2 (0, 0))) (h2 : w.heap[g2]? = some (.cells (rc r.count r.total r.depth pr) 29 (0, 0)))
    (hn : w.heap[b]? = some (.cells (nc ll pll ls lr plr) 92 (0, 0))) (hll : Nd w ll pll) (hlr : Nd w lr plr) (hr : Nd w r pr) (ho : Ok (T.node ll ls (T.node lr s r)).list) :
    Calls Try.prog 77 #[.pointer (some ⟨g0, 0, none⟩), .pointer (some ⟨g1, 0, none⟩), .pointer (some ⟨g2, 0, none⟩)] w (Gives (· = T.node ll ls (T.node lr s r)) w) := by
  have q0 := cell_of_one h0
  have q1 := cell_of_one h1
  obtain ⟨e0, e1, e2, e3⟩ := rc_cells h2
  obtain ⟨i0, i1, i2, i3, i4, i5, i6, i7, i8⟩ := nd_cells hn
  have k0 := heap_lt h0
  have k1 := heap_lt h1
  have k2 := heap_lt h2
  have k3 := heap_lt hn
  have HLL := Lib.hid hll
  have HLR := Lib.hid hlr
  have HR := Lib.hid hr
  have HO := Lib.hid ho
  have O1 := Lib.hid (T.parts ho).2.1
  have hR0 : Room (w.alloc (.cells #[.int .i64 0, .int .i64 0, .int .i64 0, .pointer none] 29)) w.heap.size := ⟨_, _, _, _, new_at _ rfl⟩
  have hB0 : Below w.heap.size w (w.alloc (.cells #[.int .i64 0, .int .i64 0, .int .i64 0, .pointer none] 29)) := (Below.refl _ _).alloc (Nat.le_refl _) _
  clear h0 h1 h2 hn ho hll hlr hr
  go_enter Try.func77, Try.ntmps77
  go_wp2_with fail
  go_region_held3 (fun W => Below w.heap.size w W ∧ Room W (w.heap.size) ∧ W.cell? ⟨g0, 0, none⟩ = some (.pointer (some ⟨b, 0, none⟩)) ∧ W.cell? ⟨g1, 0, none⟩ = some (.int .i64 s) ∧ W.cell? ⟨g2, 0, none⟩ = some (.int .i64 r.count) ∧ W.cell? ⟨g2, 1, none⟩ = some (.int .i64 r.total) ∧ W.cell? ⟨g2, 2, none⟩ = some (.int .i64 r.depth) ∧ W.cell? ⟨g2, 3, none⟩ = some (.pointer pr) ∧ W.cell? ⟨b, 0, none⟩ = some (.int .i64 ll.count) ∧ W.cell? ⟨b, 1, none⟩ = some (.int .i64 ll.total) ∧ W.cell? ⟨b, 2, none⟩ = some (.int .i64 ll.depth) ∧ W.cell? ⟨b, 3, none⟩ = some (.pointer pll) ∧ W.cell? ⟨b, 4, none⟩ = some (.int .i64 ls) ∧ W.cell? ⟨b, 5, none⟩ = some (.int .i64 lr.count) ∧ W.cell? ⟨b, 6, none⟩ = some (.int .i64 lr.total) ∧ W.cell? ⟨b, 7, none⟩ = some (.int .i64 lr.depth) ∧ W.cell? ⟨b, 8, none⟩ = some (.pointer plr))
    (first
      | (refine ⟨hB0.drew, hR0, ?_, ?_, ?_, ?_, ?_, ?_, ?_, ?_, ?_, ?_, ?_, ?_, ?_, ?_, ?_⟩ <;> first | assumption | exact keep_of hB0.drew (by assumption) | simp [go_sem])
      | (have hS := ‹Below w.heap.size w _ ∧ Room _ _ ∧ _›; refine ⟨hS.1.trans (kk.mono hS.1.size), hS.2.1.keep kk, ?_, ?_, ?_, ?_, ?_, ?_, ?_, ?_, ?_, ?_, ?_, ?_, ?_, ?_, ?_⟩ <;> exact keep_of kk (by simp only [hS]))
      | (have hS := ‹Below w.heap.size w _ ∧ Room _ _ ∧ _›; refine ⟨below_set4 hS.1 (by omega), ⟨_, _, _, _, heap_set4 hS.2.1⟩, ?_, ?_, ?_, ?_, ?_, ?_, ?_, ?_, ?_, ?_, ?_, ?_, ?_, ?_, ?_⟩ <;> exact cell_set4 (by simp <;> omega) (by simp only [hS])))
    (first
      | (go_at_call_of 71 (Value.agg #[.int .i64 lr.count, .int .i64 lr.total, .int .i64 lr.depth, .pointer plr]); refine (build_any ?_ ?_ O1.out).mono ?_; (exact HLR.out.below (‹Below w.heap.size w _ ∧ _›).1); (exact HR.out.below (‹Below w.heap.size w _ ∧ _›).1); rintro e w1 ⟨_, p1, rfl, rfl, n1, kk⟩)
      | (go_at_call_of 71 (Value.pointer p1); refine (build_any ?_ ?_ HO.out).mono ?_; (exact HLL.out.below (‹Below w.heap.size w _ ∧ _›).1); (exact n1); rintro e w3 ⟨_, p3, rfl, rfl, n3, kk⟩; have hR3 := (‹Below w.heap.size w _ ∧ Room _ _ ∧ _›).2.1.keep kk; obtain ⟨v0, v1, v2, v3, c0, c1, c2, c3, f0, f1, f2, f3⟩ := hR3.open_))
  go_wp2_with fail
  exact bodyPost_ret (res_rope rfl (g := w.heap.size) rfl (heap_set4 hR3)) rfl (gives_set rfl n3 hR3 (‹Below w.heap.size w _ ∧ _›).1)

set_option maxHeartbeats 2000000 in
theorem clos65 {l x1 x2 rr : T} {rs x s : Int} {pl prl prr : Option Addr} {w : World} {b g0 g1 g2 : Nat} (h0 : w.heap[g0]? = some (.cells (rc l.count l.total l.depth pl) 29 (0, 0))) (h1 : w.heap[g1]? = some (.cells #[.int .i64 s] 2 (0, 0))) (h2 : w.heap[g2]? = some (.cells #[.pointer (some ⟨b, 0, none⟩)] 27 (0, 0)))
    (hn : w.heap[b]? = some (.cells (nc (T.node x1 x x2) prl rs rr prr) 92 (0, 0))) (hl : Nd w l pl) (hrl : Nd w (T.node x1 x x2) prl) (hrr : Nd w rr prr) (ho : Ok (T.node (T.node l s x1) x (T.node x2 rs rr)).list) :
    Calls Try.prog 78 #[.pointer (some ⟨g0, 0, none⟩), .pointer (some ⟨g1, 0, none⟩), .pointer (some ⟨g2, 0, none⟩)] w (Gives (· = T.node (T.node l s x1) x (T.node x2 rs rr)) w) := by
  obtain ⟨bx, px1, px2, rfl, hx, hx1, hx2⟩ := hrl
  obtain ⟨e0, e1, e2, e3⟩ := rc_cells h0
  have q1 := cell_of_one h1
  have q2 := cell_of_one h2
  obtain ⟨i0, i1, i2, i3, i4, i5, i6, i7, i8⟩ := nd_cells hn
  have k0 := heap_lt h0
  have k1 := heap_lt h1
  have k2 := heap_lt h2
  have k3 := heap_lt hn
  have k4 := heap_lt hx
  have HX := Lib.hid hx
  have HL := Lib.hid hl
  have HRR := Lib.hid hrr
  have HX1 := Lib.hid hx1
  have HX2 := Lib.hid hx2
  have HO := Lib.hid ho
  have hR0 : Room (w.alloc (.cells #[.int .i64 0, .int .i64 0, .int .i64 0, .pointer none] 29)) w.heap.size := ⟨_, _, _, _, new_at _ rfl⟩
  have hB0 : Below w.heap.size w (w.alloc (.cells #[.int .i64 0, .int .i64 0, .int .i64 0, .pointer none] 29)) := (Below.refl _ _).alloc (Nat.le_refl _) _
  clear h0 h1 h2 hn ho hl hrr hx1 hx2 hx
  go_enter Try.func78, Try.ntmps78
  go_wp2_with fail
  go_region_held3 (fun W => Below w.heap.size w W ∧ Room W (w.heap.size) ∧ W.cell? ⟨g0, 0, none⟩ = some (.int .i64 l.count) ∧ W.cell? ⟨g0, 1, none⟩ = some (.int .i64 l.total) ∧ W.cell? ⟨g0, 2, none⟩ = some (.int .i64 l.depth) ∧ W.cell? ⟨g0, 3, none⟩ = some (.pointer pl) ∧ W.cell? ⟨g1, 0, none⟩ = some (.int .i64 s) ∧ W.cell? ⟨g2, 0, none⟩ = some (.pointer (some ⟨b, 0, none⟩)) ∧ W.cell? ⟨b, 0, none⟩ = some (.int .i64 (T.node x1 x x2).count) ∧ W.cell? ⟨b, 1, none⟩ = some (.int .i64 (T.node x1 x x2).total) ∧ W.cell? ⟨b, 2, none⟩ = some (.int .i64 (T.node x1 x x2).depth) ∧ W.cell? ⟨b, 3, none⟩ = some (.pointer (some ⟨bx, 0, none⟩)) ∧ W.cell? ⟨b, 4, none⟩ = some (.int .i64 rs) ∧ W.cell? ⟨b, 5, none⟩ = some (.int .i64 rr.count) ∧ W.cell? ⟨b, 6, none⟩ = some (.int .i64 rr.total) ∧ W.cell? ⟨b, 7, none⟩ = some (.int .i64 rr.depth) ∧ W.cell? ⟨b, 8, none⟩ = some (.pointer prr))
    (first
      | (refine ⟨hB0.drew, hR0, ?_, ?_, ?_, ?_, ?_, ?_, ?_, ?_, ?_, ?_, ?_, ?_, ?_, ?_, ?_⟩ <;> first | assumption | exact keep_of hB0.drew (by assumption) | simp [go_sem])
      | (have hS := ‹Below w.heap.size w _ ∧ Room _ _ ∧ _›; refine ⟨hS.1.trans (kk.mono hS.1.size), hS.2.1.keep kk, ?_, ?_, ?_, ?_, ?_, ?_, ?_, ?_, ?_, ?_, ?_, ?_, ?_, ?_, ?_⟩ <;> exact keep_of kk (by simp only [hS]))
      | (have hS := ‹Below w.heap.size w _ ∧ Room _ _ ∧ _›; refine ⟨below_set4 hS.1 (by omega), ⟨_, _, _, _, heap_set4 hS.2.1⟩, ?_, ?_, ?_, ?_, ?_, ?_, ?_, ?_, ?_, ?_, ?_, ?_, ?_, ?_, ?_⟩ <;> exact cell_set4 (by simp <;> omega) (by simp only [hS])))
    (first
      | (go_at_call 76; refine (spread_any ?_ ?_ ?_ ?_ (keep_heap ?_ HX.out) HO.out).mono ?_; (exact HL.out.below (‹Below w.heap.size w _ ∧ _›).1); (exact HX1.out.below (‹Below w.heap.size w _ ∧ _›).1); (exact HX2.out.below (‹Below w.heap.size w _ ∧ _›).1); (exact HRR.out.below (‹Below w.heap.size w _ ∧ _›).1); (exact (‹Below w.heap.size w _ ∧ _›).1); rintro e w3 ⟨_, p3, rfl, rfl, n3, kk⟩; have hR3 := (‹Below w.heap.size w _ ∧ Room _ _ ∧ _›).2.1.keep kk; obtain ⟨v0, v1, v2, v3, c0, c1, c2, c3, f0, f1, f2, f3⟩ := hR3.open_))
  go_wp2_with fail
  exact bodyPost_ret (res_rope rfl (g := w.heap.size) rfl (heap_set4 hR3)) rfl (gives_set rfl n3 hR3 (‹Below w.heap.size w _ ∧ _›).1)

set_option maxHeartbeats 2000000 in
theorem clos66 {l rl rr : T} {rs s : Int} {pl prl prr : Option Addr} {w : World} {b g0 g1 g2 : Nat} (h0 : w.heap[g0]? = some (.cells (rc l.count l.total l.depth pl) 29 (0, 0))) (h1 : w.heap[g1]? = some (.cells #[.int .i64 s] 2 (0, 0))) (h2 : w.heap[g2]? = some (.cells #[.pointer (some ⟨b, 0, none⟩)] 27 (0, 0)))
    (hn : w.heap[b]? = some (.cells (nc rl prl rs rr prr) 92 (0, 0))) (hl : Nd w l pl) (hrl : Nd w rl prl) (hrr : Nd w rr prr) (ho : Ok (T.node (T.node l s rl) rs rr).list) :
    Calls Try.prog 79 #[.pointer (some ⟨g0, 0, none⟩), .pointer (some ⟨g1, 0, none⟩), .pointer (some ⟨g2, 0, none⟩)] w (Gives (· = T.node (T.node l s rl) rs rr) w) := by
  obtain ⟨e0, e1, e2, e3⟩ := rc_cells h0
  have q1 := cell_of_one h1
  have q2 := cell_of_one h2
  obtain ⟨i0, i1, i2, i3, i4, i5, i6, i7, i8⟩ := nd_cells hn
  have k0 := heap_lt h0
  have k1 := heap_lt h1
  have k2 := heap_lt h2
  have k3 := heap_lt hn
  have HL := Lib.hid hl
  have HRL := Lib.hid hrl
  have HRR := Lib.hid hrr
  have HO := Lib.hid ho
  have O1 := Lib.hid (T.parts ho).1
  have hR0 : Room (w.alloc (.cells #[.int .i64 0, .int .i64 0, .int .i64 0, .pointer none] 29)) w.heap.size := ⟨_, _, _, _, new_at _ rfl⟩
  have hB0 : Below w.heap.size w (w.alloc (.cells #[.int .i64 0, .int .i64 0, .int .i64 0, .pointer none] 29)) := (Below.refl _ _).alloc (Nat.le_refl _) _
  clear h0 h1 h2 hn ho hl hrl hrr
  go_enter Try.func79, Try.ntmps79
  go_wp2_with fail
  go_region_held3 (fun W => Below w.heap.size w W ∧ Room W (w.heap.size) ∧ W.cell? ⟨g0, 0, none⟩ = some (.int .i64 l.count) ∧ W.cell? ⟨g0, 1, none⟩ = some (.int .i64 l.total) ∧ W.cell? ⟨g0, 2, none⟩ = some (.int .i64 l.depth) ∧ W.cell? ⟨g0, 3, none⟩ = some (.pointer pl) ∧ W.cell? ⟨g1, 0, none⟩ = some (.int .i64 s) ∧ W.cell? ⟨g2, 0, none⟩ = some (.pointer (some ⟨b, 0, none⟩)) ∧ W.cell? ⟨b, 0, none⟩ = some (.int .i64 rl.count) ∧ W.cell? ⟨b, 1, none⟩ = some (.int .i64 rl.total) ∧ W.cell? ⟨b, 2, none⟩ = some (.int .i64 rl.depth) ∧ W.cell? ⟨b, 3, none⟩ = some (.pointer prl) ∧ W.cell? ⟨b, 4, none⟩ = some (.int .i64 rs) ∧ W.cell? ⟨b, 5, none⟩ = some (.int .i64 rr.count) ∧ W.cell? ⟨b, 6, none⟩ = some (.int .i64 rr.total) ∧ W.cell? ⟨b, 7, none⟩ = some (.int .i64 rr.depth) ∧ W.cell? ⟨b, 8, none⟩ = some (.pointer prr))
    (first
      | (refine ⟨hB0.drew, hR0, ?_, ?_, ?_, ?_, ?_, ?_, ?_, ?_, ?_, ?_, ?_, ?_, ?_, ?_, ?_⟩ <;> first | assumption | exact keep_of hB0.drew (by assumption) | simp [go_sem])
      | (have hS := ‹Below w.heap.size w _ ∧ Room _ _ ∧ _›; refine ⟨hS.1.trans (kk.mono hS.1.size), hS.2.1.keep kk, ?_, ?_, ?_, ?_, ?_, ?_, ?_, ?_, ?_, ?_, ?_, ?_, ?_, ?_, ?_⟩ <;> exact keep_of kk (by simp only [hS]))
      | (have hS := ‹Below w.heap.size w _ ∧ Room _ _ ∧ _›; refine ⟨below_set4 hS.1 (by omega), ⟨_, _, _, _, heap_set4 hS.2.1⟩, ?_, ?_, ?_, ?_, ?_, ?_, ?_, ?_, ?_, ?_, ?_, ?_, ?_, ?_, ?_⟩ <;> exact cell_set4 (by simp <;> omega) (by simp only [hS])))
    (first
      | (go_at_call_of 71 (Value.agg #[.int .i64 l.count, .int .i64 l.total, .int .i64 l.depth, .pointer pl]); refine (build_any ?_ ?_ O1.out).mono ?_; (exact HL.out.below (‹Below w.heap.size w _ ∧ _›).1); (exact HRL.out.below (‹Below w.heap.size w _ ∧ _›).1); rintro e w1 ⟨_, p1, rfl, rfl, n1, kk⟩)
      | (go_at_call_of 71 (Value.pointer p1); refine (build_any ?_ ?_ HO.out).mono ?_; (exact n1); (exact HRR.out.below (‹Below w.heap.size w _ ∧ _›).1); rintro e w3 ⟨_, p3, rfl, rfl, n3, kk⟩; have hR3 := (‹Below w.heap.size w _ ∧ Room _ _ ∧ _›).2.1.keep kk; obtain ⟨v0, v1, v2, v3, c0, c1, c2, c3, f0, f1, f2, f3⟩ := hR3.open_))
  go_wp2_with fail
  exact bodyPost_ret (res_rope rfl (g := w.heap.size) rfl (heap_set4 hR3)) rfl (gives_set rfl n3 hR3 (‹Below w.heap.size w _ ∧ _›).1)

end Go.Proofs.Ytdejdnkkbpmmlaa

namespace Go.Proofs.Ytdejdnkkbpmmlaa
open Go.RowKit

/-- what balance makes of two sides -/
structure Bl (l : T) (s : Int) (r : T) (t : T) : Prop where
  list : t.list = l.list ++ s :: r.list
  bal : t.Bal
  dep : BalD l.depth r.depth t.depth

theorem bl_near {l r : T} (s : Int) (hl : l.Bal) (hr : r.Bal) (h1 : l.depth ≤ r.depth + 1) (h2 : r.depth ≤ l.depth + 1) : Bl l s r (T.node l s r) :=
  ⟨rfl, ⟨hl, hr, h1, h2⟩, .inl ⟨h1, h2, rfl⟩⟩
theorem bl_62 {ll x1 x2 r : T} {ls x : Int} (s : Int) (hl : (T.node ll ls (T.node x1 x x2)).Bal) (hr : r.Bal) (h1 : (T.node ll ls (T.node x1 x x2)).depth = r.depth + 2) (h2 : ll.depth < (T.node x1 x x2).depth) :
    Bl (T.node ll ls (T.node x1 x x2)) s r (T.node (T.node ll ls x1) x (T.node x2 s r)) := by
  obtain ⟨a, ⟨b, c, d, e⟩, f, g⟩ := hl
  simp only [T.depth] at *
  refine ⟨by simp [T.list], ⟨⟨a, b, by omega, by omega⟩, ⟨c, hr, by omega, by omega⟩, by simp only [T.depth]; omega, by simp only [T.depth]; omega⟩, ?_⟩
  unfold BalD
  simp only [T.depth]
  omega
theorem bl_64 {ll lr r : T} {ls : Int} (s : Int) (hl : (T.node ll ls lr).Bal) (hr : r.Bal) (h1 : (T.node ll ls lr).depth = r.depth + 2) (h2 : ¬ ll.depth < lr.depth) :
    Bl (T.node ll ls lr) s r (T.node ll ls (T.node lr s r)) := by
  obtain ⟨a, b, f, g⟩ := hl
  simp only [T.depth] at *
  refine ⟨by simp [T.list], ⟨a, ⟨b, hr, by omega, by omega⟩, by simp only [T.depth]; omega, by simp only [T.depth]; omega⟩, ?_⟩
  unfold BalD
  simp only [T.depth]
  omega
theorem bl_65 {l x1 x2 rr : T} {rs x : Int} (s : Int) (hl : l.Bal) (hr : (T.node (T.node x1 x x2) rs rr).Bal) (h1 : (T.node (T.node x1 x x2) rs rr).depth = l.depth + 2) (h2 : rr.depth < (T.node x1 x x2).depth) :
    Bl l s (T.node (T.node x1 x x2) rs rr) (T.node (T.node l s x1) x (T.node x2 rs rr)) := by
  obtain ⟨⟨b, c, d, e⟩, a, f, g⟩ := hr
  simp only [T.depth] at *
  refine ⟨by simp [T.list], ⟨⟨hl, b, by omega, by omega⟩, ⟨c, a, by omega, by omega⟩, by simp only [T.depth]; omega, by simp only [T.depth]; omega⟩, ?_⟩
  unfold BalD
  simp only [T.depth]
  omega
theorem bl_66 {l rl rr : T} {rs : Int} (s : Int) (hl : l.Bal) (hr : (T.node rl rs rr).Bal) (h1 : (T.node rl rs rr).depth = l.depth + 2) (h2 : ¬ rr.depth < rl.depth) :
    Bl l s (T.node rl rs rr) (T.node (T.node l s rl) rs rr) := by
  obtain ⟨a, b, f, g⟩ := hr
  simp only [T.depth] at *
  refine ⟨by simp [T.list], ⟨⟨hl, a, by omega, by omega⟩, b, by simp only [T.depth]; omega, by simp only [T.depth]; omega⟩, ?_⟩
  unfold BalD
  simp only [T.depth]
  omega

theorem gives_imp {P Q : T → Prop} (h : ∀ t, P t → Q t) {w : World} {e : Ending} {w' : World} (hg : Gives P w e w') : Gives Q w e w' := by
  obtain ⟨t, p, h1, h2⟩ := hg
  exact ⟨t, p, h t h1, h2⟩

/-- memory ahead of balance's choice -/
structure BalW (w : World) (l : T) (s : Int) (r : T) (pl pr : Option Addr) (g h : Nat) (W : World) : Prop where
  a : W.heap[g]? = some (.cells #[.pointer pl] 27 (0, 0))
  b : W.heap[h]? = some (.cells #[.pointer pr] 27 (0, 0))
  x : W.heap[w.heap.size]? = some (.cells (rc l.count l.total l.depth pl) 29 (0, 0))
  y : W.heap[w.heap.size + 1]? = some (.cells #[.int .i64 s] 2 (0, 0))
  z : W.heap[w.heap.size + 1 + 1]? = some (.cells (rc r.count r.total r.depth pr) 29 (0, 0))
  q : Room W (w.heap.size + 1 + 1 + 1)
  u : Below w.heap.size w W
theorem below_six (w : World) (A B C D E F : Obj) : Below w.heap.size w ((((((w.alloc A).alloc B).alloc C).alloc D).alloc E).alloc F) :=
  ((((((Below.refl _ _).alloc (Nat.le_refl _) _).alloc (by simp) _).alloc (by simp; omega) _).alloc (by simp; omega) _).alloc (by simp; omega) _).alloc (by simp; omega) _
theorem balW_1 (w : World) (l : T) (s : Int) (r : T) (pl pr : Option Addr) :
    BalW w l s r pl pr (w.heap.size + 1 + 1 + 1 + 1) (w.heap.size + 1 + 1 + 1 + 1 + 1) ((((((w.alloc (.cells (rc l.count l.total l.depth pl) 29)).alloc (.cells #[.int .i64 s] 2)).alloc (.cells (rc r.count r.total r.depth pr) 29)).alloc (.cells #[.int .i64 0, .int .i64 0, .int .i64 0, .pointer none] 29)).alloc (.cells #[.pointer pl] 27)).alloc (.cells #[.pointer pr] 27)).drew := by
  refine ⟨?_, ?_, ?_, ?_, ?_, ⟨.int .i64 0, .int .i64 0, .int .i64 0, .pointer none, ?_⟩, (below_six w _ _ _ _ _ _).drew⟩ <;> (show ((((((w.heap.push _).push _).push _).push _).push _).push _)[_]? = _; simp only [Array.getElem?_push, Array.size_push]; repeat (first | rw [if_pos (by omega)] | rw [if_neg (by omega)] | rw [if_pos trivial]))
theorem balW_2 (w : World) (l : T) (s : Int) (r : T) (pl pr : Option Addr) :
    BalW w l s r pl pr (w.heap.size + 1 + 1 + 1 + 1 + 1) (w.heap.size + 1 + 1 + 1 + 1) ((((((w.alloc (.cells (rc l.count l.total l.depth pl) 29)).alloc (.cells #[.int .i64 s] 2)).alloc (.cells (rc r.count r.total r.depth pr) 29)).alloc (.cells #[.int .i64 0, .int .i64 0, .int .i64 0, .pointer none] 29)).alloc (.cells #[.pointer pr] 27)).alloc (.cells #[.pointer pl] 27)).drew := by
  refine ⟨?_, ?_, ?_, ?_, ?_, ⟨.int .i64 0, .int .i64 0, .int .i64 0, .pointer none, ?_⟩, (below_six w _ _ _ _ _ _).drew⟩ <;> (show ((((((w.heap.push _).push _).push _).push _).push _).push _)[_]? = _; simp only [Array.getElem?_push, Array.size_push]; repeat (first | rw [if_pos (by omega)] | rw [if_neg (by omega)] | rw [if_pos trivial]))

theorem BalW.drewN {w W : World} {l r : T} {s : Int} {pl pr : Option Addr} {g h : Nat} (n : Nat) (hw : BalW w l s r pl pr g h W) : BalW w l s r pl pr g h (W.drewN n) :=
  ⟨hw.a, hw.b, hw.x, hw.y, hw.z, hw.q, ⟨hw.u.os, hw.u.tape, hw.u.output, hw.u.size, hw.u.block⟩⟩

set_option maxHeartbeats 4000000 in
theorem balance_any {l r : T} {s : Int} {pl pr : Option Addr} {w : World} (hl : Nd w l pl) (hr : Nd w r pr) (bl : l.Bal) (br : r.Bal) (h1 : l.depth ≤ r.depth + 2) (h2 : r.depth ≤ l.depth + 2) (ho : Ok (l.list ++ s :: r.list)) :
    Calls Try.prog 73 #[.agg #[.int .i64 l.count, .int .i64 l.total, .int .i64 l.depth, .pointer pl], .int .i64 s, .agg #[.int .i64 r.count, .int .i64 r.total, .int .i64 r.depth, .pointer pr]] w (Gives (Bl l s r) w) := by
  have b1 := T.bounds (ho.mid).1
  have b2 := T.bounds (ho.mid).2.1
  obtain ⟨_, _, _, b1⟩ := b1
  obtain ⟨_, _, _, b2⟩ := b2
  have HL := Lib.hid hl
  have HR := Lib.hid hr
  have HBL := Lib.hid bl
  have HBR := Lib.hid br
  have HO := Lib.hid ho
  clear hl hr bl br ho
  go_enter Try.func73, Try.ntmps73
  go_upto_region 2 with fail
  go_cut [7, 8] (fun s7 s8 wx => ∃ g h : Nat, s7 = .pointer (some ⟨g, 0, none⟩) ∧ s8 = .pointer (some ⟨h, 0, none⟩) ∧ BalW w l s r pl pr g h wx)
  case first =>
    go_region
    all_goals
      go_wp2_with fail
      go_meet
      first | exact ⟨_, _, rfl, rfl, balW_1 w l s r pl pr⟩ | exact ⟨_, _, rfl, rfl, balW_2 w l s r pl pr⟩
  case rest =>
    obtain ⟨g, h, rfl, rfl, HW⟩ := hcut
    obtain ⟨x0, x1, x2, x3⟩ := rc_cells HW.x
    have y0 := cell_of_one HW.y
    obtain ⟨z0, z1, z2, z3⟩ := rc_cells HW.z
    have a0 := cell_of_one HW.a
    have c0 := cell_of_one HW.b
    have HQ := Lib.hid HW.q
    have HU := Lib.hid HW.u
    have HWH := Lib.hid HW
    clear HW
    by_cases hA : r.depth + 1 < l.depth
    · obtain ⟨ll, ls, lr, rfl⟩ := T.depth_pos (t := l) (by omega)
      have hn := HL.out
      obtain ⟨b, pll, plr, rfl, hn, hll, hlr⟩ := hn
      obtain ⟨i0, i1, i2, i3, i4, i5, i6, i7, i8⟩ := nd_cells (keep_heap HU.out hn)
      have HN := Lib.hid (keep_heap HU.out hn)
      have HLL := Lib.hid (hll.below HU.out)
      have HLR := Lib.hid (hlr.below HU.out)
      have HRR := Lib.hid (HR.out.below HU.out)
      clear hn hll hlr HL HR
      have e1 : (1 : Int) < ((T.node ll ls lr).depth : Int) - (r.depth : Int) := by omega
      have e2 : Hid ((T.node ll ls lr).depth = r.depth + 2) := Lib.hid (by omega)
      by_cases hB : ll.depth < lr.depth
      · obtain ⟨x1, x, x2, rfl⟩ := T.depth_pos (t := lr) (by omega)
        have HB := Lib.hid (bl_62 s HBL.out HBR.out e2.out hB)
        go_wp2_with fail
        go_quiet (fail)
        go_wp2_with fail
        refine (clos62 (BalW.drewN _ HWH.out).a (BalW.drewN _ HWH.out).y (BalW.drewN _ HWH.out).z HN.out (HLL.out.drewN _) (HLR.out.drewN _) (HRR.out.drewN _) (by rw [HB.out.list]; exact HO.out)).mono ?_
        rintro e w3 ⟨_, p3, rfl, rfl, n3, kk⟩
        have hR3 := (BalW.drewN _ HWH.out).q.keep kk
        have hb3 := (BalW.drewN _ HWH.out).u.trans (kk.mono (BalW.drewN _ HWH.out).u.size)
        obtain ⟨v0, v1, v2, v3, f0, f1, f2, f3, f4, f5, f6, f7⟩ := hR3.open_
        go_wp2_with fail
        exact bodyPost_ret (res_rope rfl (g := w.heap.size + 1 + 1 + 1) rfl (heap_set4 hR3)) rfl (gives_set HB.out n3 hR3 (below_set4 hb3 (by omega)))
      · have HB := Lib.hid (bl_64 s HBL.out HBR.out e2.out hB)
        go_wp2_with fail
        go_quiet (fail)
        go_wp2_with fail
        refine (clos64 (BalW.drewN _ HWH.out).a (BalW.drewN _ HWH.out).y (BalW.drewN _ HWH.out).z HN.out (HLL.out.drewN _) (HLR.out.drewN _) (HRR.out.drewN _) (by rw [HB.out.list]; exact HO.out)).mono ?_
        rintro e w3 ⟨_, p3, rfl, rfl, n3, kk⟩
        have hR3 := (BalW.drewN _ HWH.out).q.keep kk
        have hb3 := (BalW.drewN _ HWH.out).u.trans (kk.mono (BalW.drewN _ HWH.out).u.size)
        obtain ⟨v0, v1, v2, v3, f0, f1, f2, f3, f4, f5, f6, f7⟩ := hR3.open_
        go_wp2_with fail
        exact bodyPost_ret (res_rope rfl (g := w.heap.size + 1 + 1 + 1) rfl (heap_set4 hR3)) rfl (gives_set HB.out n3 hR3 (below_set4 hb3 (by omega)))
    · by_cases hC : l.depth + 1 < r.depth
      · obtain ⟨rl, rs, rr, rfl⟩ := T.depth_pos (t := r) (by omega)
        have hn := HR.out
        obtain ⟨b, prl, prr, rfl, hn, hrl, hrr⟩ := hn
        obtain ⟨i0, i1, i2, i3, i4, i5, i6, i7, i8⟩ := nd_cells (keep_heap HU.out hn)
        have HN := Lib.hid (keep_heap HU.out hn)
        have HRL := Lib.hid (hrl.below HU.out)
        have HRR := Lib.hid (hrr.below HU.out)
        have HLL := Lib.hid (HL.out.below HU.out)
        clear hn hrl hrr HL HR
        have e1 : (l.depth : Int) - ((T.node rl rs rr).depth : Int) < -1 := by omega
        have e3 : decide ((1 : Int) < (l.depth : Int) - ((T.node rl rs rr).depth : Int)) = false := by simp; omega
        have e2 : Hid ((T.node rl rs rr).depth = l.depth + 2) := Lib.hid (by omega)
        by_cases hB : rr.depth < rl.depth
        · obtain ⟨x1, x, x2, rfl⟩ := T.depth_pos (t := rl) (by omega)
          have HB := Lib.hid (bl_65 s HBL.out HBR.out e2.out hB)
          go_wp2_with fail
          go_quiet (fail)
          go_wp2_with fail
          go_quiet (fail)
          go_wp2_with fail
          refine (clos65 (BalW.drewN _ HWH.out).x (BalW.drewN _ HWH.out).y (BalW.drewN _ HWH.out).b HN.out (HLL.out.drewN _) (HRL.out.drewN _) (HRR.out.drewN _) (by rw [HB.out.list]; exact HO.out)).mono ?_
          rintro e w3 ⟨_, p3, rfl, rfl, n3, kk⟩
          have hR3 := (BalW.drewN _ HWH.out).q.keep kk
          have hb3 := (BalW.drewN _ HWH.out).u.trans (kk.mono (BalW.drewN _ HWH.out).u.size)
          obtain ⟨v0, v1, v2, v3, f0, f1, f2, f3, f4, f5, f6, f7⟩ := hR3.open_
          go_wp2_with fail
          exact bodyPost_ret (res_rope rfl (g := w.heap.size + 1 + 1 + 1) rfl (heap_set4 hR3)) rfl (gives_set HB.out n3 hR3 (below_set4 hb3 (by omega)))
        · have HB := Lib.hid (bl_66 s HBL.out HBR.out e2.out hB)
          go_wp2_with fail
          go_quiet (fail)
          go_wp2_with fail
          go_quiet (fail)
          go_wp2_with fail
          refine (clos66 (BalW.drewN _ HWH.out).x (BalW.drewN _ HWH.out).y (BalW.drewN _ HWH.out).b HN.out (HLL.out.drewN _) (HRL.out.drewN _) (HRR.out.drewN _) (by rw [HB.out.list]; exact HO.out)).mono ?_
          rintro e w3 ⟨_, p3, rfl, rfl, n3, kk⟩
          have hR3 := (BalW.drewN _ HWH.out).q.keep kk
          have hb3 := (BalW.drewN _ HWH.out).u.trans (kk.mono (BalW.drewN _ HWH.out).u.size)
          obtain ⟨v0, v1, v2, v3, f0, f1, f2, f3, f4, f5, f6, f7⟩ := hR3.open_
          go_wp2_with fail
          exact bodyPost_ret (res_rope rfl (g := w.heap.size + 1 + 1 + 1) rfl (heap_set4 hR3)) rfl (gives_set HB.out n3 hR3 (below_set4 hb3 (by omega)))
      · have e3 : decide ((1 : Int) < (l.depth : Int) - (r.depth : Int)) = false := by simp; omega
        have e4 : decide ((l.depth : Int) - (r.depth : Int) < -1) = false := by simp; omega
        have HLL := Lib.hid (HL.out.below HU.out)
        have HRR := Lib.hid (HR.out.below HU.out)
        clear HL HR
        have HB := Lib.hid (bl_near s HBL.out HBR.out (by omega) (by omega))
        go_wp2_with fail
        go_quiet (fail)
        go_wp2_with fail
        go_quiet (fail)
        go_wp2_with fail
        refine (clos61 (BalW.drewN _ HWH.out).x (BalW.drewN _ HWH.out).y (BalW.drewN _ HWH.out).z (HLL.out.drewN _) (HRR.out.drewN _) (by rw [HB.out.list]; exact HO.out)).mono ?_
        rintro e w3 ⟨_, p3, rfl, rfl, n3, kk⟩
        have hR3 := (BalW.drewN _ HWH.out).q.keep kk
        have hb3 := (BalW.drewN _ HWH.out).u.trans (kk.mono (BalW.drewN _ HWH.out).u.size)
        obtain ⟨v0, v1, v2, v3, f0, f1, f2, f3, f4, f5, f6, f7⟩ := hR3.open_
        go_wp2_with fail
        exact bodyPost_ret (res_rope rfl (g := w.heap.size + 1 + 1 + 1) rfl (heap_set4 hR3)) rfl (gives_set HB.out n3 hR3 (below_set4 hb3 (by omega)))
end Go.Proofs.Ytdejdnkkbpmmlaa
