/- The walks of spread and of balance's closures. -/
import Derived.Test.YtfkjnepafgehiaaBase
namespace Go.Proofs.Ytfkjnepafgehiaa
open Go.RowKit

/-- the cells of a node -/
def nc (l : T) (pl : Option Addr) (s : Int) (r : T) (pr : Option Addr) : Array Value :=
  #[.int .i64 l.count, .int .i64 l.total, .int .i64 l.depth, .pointer pl, .int .i64 s, .int .i64 r.count, .int .i64 r.total, .int .i64 r.depth, .pointer pr]
theorem gives_at {P : T → Prop} {w0 w : World} {e : Ending} {w' : World} (h : Gives P w e w') (hb : Below w0.heap.size w0 w) : Gives P w0 e w' := by
  obtain ⟨t, p, h1, h2, h3, h4⟩ := h
  exact ⟨t, p, h1, h2, h3, hb.trans (h4.mono hb.size)⟩
theorem nd_cells {w : World} {b : Nat} {l r : T} {pl pr : Option Addr} {s : Int} (h : w.heap[b]? = some (.cells (nc l pl s r pr) 75 (0, 0))) :
    w.cell? ⟨b, 0, none⟩ = some (.int .i64 l.count) ∧ w.cell? ⟨b, 1, none⟩ = some (.int .i64 l.total) ∧ w.cell? ⟨b, 2, none⟩ = some (.int .i64 l.depth) ∧ w.cell? ⟨b, 3, none⟩ = some (.pointer pl) ∧
    w.cell? ⟨b, 4, none⟩ = some (.int .i64 s) ∧ w.cell? ⟨b, 5, none⟩ = some (.int .i64 r.count) ∧ w.cell? ⟨b, 6, none⟩ = some (.int .i64 r.total) ∧ w.cell? ⟨b, 7, none⟩ = some (.int .i64 r.depth) ∧ w.cell? ⟨b, 8, none⟩ = some (.pointer pr) :=
  ⟨cell_of_row w b 0 _ 75 (0, 0) h, cell_of_row w b 1 _ 75 (0, 0) h, cell_of_row w b 2 _ 75 (0, 0) h, cell_of_row w b 3 _ 75 (0, 0) h, cell_of_row w b 4 _ 75 (0, 0) h,
    cell_of_row w b 5 _ 75 (0, 0) h, cell_of_row w b 6 _ 75 (0, 0) h, cell_of_row w b 7 _ 75 (0, 0) h, cell_of_row w b 8 _ 75 (0, 0) h⟩

/-- a cell that is there stays -/
theorem keep_of {w0 w1 : World} (hb : Below w0.heap.size w0 w1) {p : Addr} {v : Value} (h : w0.cell? p = some v) : w1.cell? p = some v :=
  (hb.cell (World.block_lt_of_cell? w0 p h)).trans h
theorem keep_frozen {w0 w1 : World} (hb : Below w0.heap.size w0 w1) {p : Addr} {v : Value} (hc : w0.cell? p = some v) (h : w0.frozen? p = false) : w1.frozen? p = false :=
  (hb.frozen (World.block_lt_of_cell? w0 p hc)).trans h
theorem keep_heap {w0 w1 : World} (hb : Below w0.heap.size w0 w1) {g : Nat} {o : Obj} (h : w0.heap[g]? = some o) : w1.heap[g]? = some o := (hb.block g (heap_lt h)).trans h
/-- four cells of a rope in a variable -/
theorem rc_cells {w : World} {g : Nat} {c x d : Int} {p : Option Addr} (h : w.heap[g]? = some (.cells (rc c x d p) 27 (0, 0))) :
    w.cell? ⟨g, 0, none⟩ = some (.int .i64 c) ∧ w.cell? ⟨g, 1, none⟩ = some (.int .i64 x) ∧ w.cell? ⟨g, 2, none⟩ = some (.int .i64 d) ∧ w.cell? ⟨g, 3, none⟩ = some (.pointer p) :=
  ⟨cell_of_row w g 0 _ 27 (0, 0) h, cell_of_row w g 1 _ 27 (0, 0) h, cell_of_row w g 2 _ 27 (0, 0) h, cell_of_row w g 3 _ 27 (0, 0) h⟩

/-- a variable for a rope -/
def Room (W : World) (g : Nat) : Prop := ∃ v0 v1 v2 v3, W.heap[g]? = some (.cells #[v0, v1, v2, v3] 27 (0, 0))
theorem Room.keep {w0 w1 : World} {g : Nat} (h : Room w0 g) (hb : Below w0.heap.size w0 w1) : Room w1 g := by
  obtain ⟨v0, v1, v2, v3, h⟩ := h
  exact ⟨v0, v1, v2, v3, keep_heap hb h⟩
theorem Room.open_ {W : World} {g : Nat} (h : Room W g) : ∃ v0 v1 v2 v3, W.cell? ⟨g, 0, none⟩ = some v0 ∧ W.cell? ⟨g, 1, none⟩ = some v1 ∧ W.cell? ⟨g, 2, none⟩ = some v2 ∧ W.cell? ⟨g, 3, none⟩ = some v3 ∧
    W.frozen? ⟨g, 0, none⟩ = false ∧ W.frozen? ⟨g, 1, none⟩ = false ∧ W.frozen? ⟨g, 2, none⟩ = false ∧ W.frozen? ⟨g, 3, none⟩ = false := by
  obtain ⟨v0, v1, v2, v3, h⟩ := h
  exact ⟨v0, v1, v2, v3, cell_of_row W g 0 _ 27 (0, 0) h, cell_of_row W g 1 _ 27 (0, 0) h, cell_of_row W g 2 _ 27 (0, 0) h, cell_of_row W g 3 _ 27 (0, 0) h, by simp [World.frozen?, h], by simp [World.frozen?, h], by simp [World.frozen?, h], by simp [World.frozen?, h]⟩
theorem heap_set4 {W : World} {g : Nat} {a0 a1 a2 a3 : Value} (h : Room W g) :
    ((((W.setCell ⟨g, 0, none⟩ a0).setCell ⟨g, 1, none⟩ a1).setCell ⟨g, 2, none⟩ a2).setCell ⟨g, 3, none⟩ a3).heap[g]? = some (.cells #[a0, a1, a2, a3] 27 (0, 0)) := by
  obtain ⟨v0, v1, v2, v3, h⟩ := h
  simp [World.setCell, Array.getElem?_modify, h]
theorem cell_set4 {W : World} {g : Nat} {a0 a1 a2 a3 : Value} {p : Addr} {v : Value} (hp : p.block ≠ g) (h : W.cell? p = some v) :
    ((((W.setCell ⟨g, 0, none⟩ a0).setCell ⟨g, 1, none⟩ a1).setCell ⟨g, 2, none⟩ a2).setCell ⟨g, 3, none⟩ a3).cell? p = some v := by
  rw [World.cell?_setCell_other _ _ _ _ (fun e => hp (by rw [← e])), World.cell?_setCell_other _ _ _ _ (fun e => hp (by rw [← e])), World.cell?_setCell_other _ _ _ _ (fun e => hp (by rw [← e])), World.cell?_setCell_other _ _ _ _ (fun e => hp (by rw [← e]))]
  exact h
theorem below_set4 {B : Nat} {w W : World} {g : Nat} {a0 a1 a2 a3 : Value} (h : Below B w W) (hg : B ≤ g) : Below B w ((((W.setCell ⟨g, 0, none⟩ a0).setCell ⟨g, 1, none⟩ a1).setCell ⟨g, 2, none⟩ a2).setCell ⟨g, 3, none⟩ a3) :=
  (((h.setCell hg _).setCell hg _).setCell hg _).setCell hg _
theorem far_set4 {W : World} {g k : Nat} {a0 a1 a2 a3 : Value} {o : Obj} (hk : k ≠ g) (h : W.heap[k]? = some o) :
    ((((W.setCell ⟨g, 0, none⟩ a0).setCell ⟨g, 1, none⟩ a1).setCell ⟨g, 2, none⟩ a2).setCell ⟨g, 3, none⟩ a3).heap[k]? = some o := by
  rw [Below.heap_setCell _ _ _ k hk, Below.heap_setCell _ _ _ k hk, Below.heap_setCell _ _ _ k hk, Below.heap_setCell _ _ _ k hk]
  exact h

theorem Nd.ne_room {W : World} {g b : Nat} {cs : Array Value} (hr : Room W g) (h : W.heap[b]? = some (.cells cs 75 (0, 0))) : b ≠ g := by
  rintro rfl
  obtain ⟨v0, v1, v2, v3, hr⟩ := hr
  rw [h] at hr
  injection hr with hr
  injection hr with _ ht
  exact absurd ht (by decide)
theorem Nd.set4 {W : World} {g : Nat} {a0 a1 a2 a3 : Value} (hr : Room W g) : ∀ {t : T} {p : Option Addr}, Nd W t p → Nd ((((W.setCell ⟨g, 0, none⟩ a0).setCell ⟨g, 1, none⟩ a1).setCell ⟨g, 2, none⟩ a2).setCell ⟨g, 3, none⟩ a3) t p
  | .nil, _, h => h
  | .node _ _ _, _, ⟨b, pl, pr, e, h, hl, hr'⟩ => ⟨b, pl, pr, e, far_set4 (Nd.ne_room hr h) h, Nd.set4 hr hl, Nd.set4 hr hr'⟩
theorem gives_set {P : T → Prop} {w W : World} {t : T} {p : Option Addr} {g : Nat} (hP : P t) (hn : Nd W t p) (hr : Room W g) (hb : Below w.heap.size w ((((W.setCell ⟨g, 0, none⟩ (.int .i64 t.count)).setCell ⟨g, 1, none⟩ (.int .i64 t.total)).setCell ⟨g, 2, none⟩ (.int .i64 t.depth)).setCell ⟨g, 3, none⟩ (.pointer p))) :
    Gives P w (.returned (.agg (rc t.count t.total t.depth p))) ((((W.setCell ⟨g, 0, none⟩ (.int .i64 t.count)).setCell ⟨g, 1, none⟩ (.int .i64 t.total)).setCell ⟨g, 2, none⟩ (.int .i64 t.depth)).setCell ⟨g, 3, none⟩ (.pointer p)) :=
  ⟨t, p, hP, rfl, hn.set4 hr, hb⟩

set_option maxHeartbeats 2000000 in
theorem spread_any {l a c r : T} {s x y : Int} {pl pa pc pr : Option Addr} {w : World} {b : Nat} (hl : Nd w l pl) (ha : Nd w a pa) (hc : Nd w c pc) (hr : Nd w r pr)
    (hn : w.heap[b]? = some (.cells (nc a pa x c pc) 75 (0, 0))) (ho : Ok (T.node (T.node l s a) x (T.node c y r)).list) :
    Calls Try.prog 63 #[.agg #[.int .i64 l.count, .int .i64 l.total, .int .i64 l.depth, .pointer pl], .int .i64 s, .pointer (some ⟨b, 0, none⟩), .int .i64 y, .agg #[.int .i64 r.count, .int .i64 r.total, .int .i64 r.depth, .pointer pr]] w
      (Gives (· = T.node (T.node l s a) x (T.node c y r)) w) := by
  obtain ⟨h1, h2, h3, h4, h5, h6⟩ := T.parts ho
  obtain ⟨g0, g1, g2, g3, g4, g5, g6, g7, g8⟩ := nd_cells hn
  have HL := Lib.hid hl
  have HA := Lib.hid ha
  have HC := Lib.hid hc
  have HR := Lib.hid hr
  have HO := Lib.hid ho
  have O1 := Lib.hid h1
  have O2 := Lib.hid h2
  have hblt := heap_lt hn
  have hb2 : b ≠ w.heap.size + 1 + 1 := by omega
  have hB0 : Below w.heap.size w (((w.alloc (.cells #[.int .i64 l.count, .int .i64 l.total, .int .i64 l.depth, .pointer pl] 27)).alloc (.cells #[.int .i64 r.count, .int .i64 r.total, .int .i64 r.depth, .pointer pr] 27)).alloc (.cells #[.int .i64 0, .int .i64 0, .int .i64 0, .pointer none] 27)) :=
    (((Below.refl _ _).alloc (Nat.le_refl _) _).alloc (by simp) _).alloc (by simp; omega) _
  have hR0 : Room (((w.alloc (.cells #[.int .i64 l.count, .int .i64 l.total, .int .i64 l.depth, .pointer pl] 27)).alloc (.cells #[.int .i64 r.count, .int .i64 r.total, .int .i64 r.depth, .pointer pr] 27)).alloc (.cells #[.int .i64 0, .int .i64 0, .int .i64 0, .pointer none] 27)) (w.heap.size + 1 + 1) :=
    ⟨_, _, _, _, new_at _ (by simp)⟩
  clear hl ha hc hr h1 h2 hn ho h5 h6
  go_enter Try.func63, Try.ntmps63
  go_wp2_with fail
  go_region_held3 (fun W => Below w.heap.size w W ∧ Room W (w.heap.size + 1 + 1) ∧
      W.cell? ⟨w.heap.size, 0, none⟩ = some (.int .i64 l.count) ∧ W.cell? ⟨w.heap.size, 1, none⟩ = some (.int .i64 l.total) ∧ W.cell? ⟨w.heap.size, 2, none⟩ = some (.int .i64 l.depth) ∧ W.cell? ⟨w.heap.size, 3, none⟩ = some (.pointer pl) ∧
      W.cell? ⟨w.heap.size + 1, 0, none⟩ = some (.int .i64 r.count) ∧ W.cell? ⟨w.heap.size + 1, 1, none⟩ = some (.int .i64 r.total) ∧ W.cell? ⟨w.heap.size + 1, 2, none⟩ = some (.int .i64 r.depth) ∧ W.cell? ⟨w.heap.size + 1, 3, none⟩ = some (.pointer pr) ∧
      W.cell? ⟨b, 0, none⟩ = some (.int .i64 a.count) ∧ W.cell? ⟨b, 1, none⟩ = some (.int .i64 a.total) ∧ W.cell? ⟨b, 2, none⟩ = some (.int .i64 a.depth) ∧ W.cell? ⟨b, 3, none⟩ = some (.pointer pa) ∧ W.cell? ⟨b, 4, none⟩ = some (.int .i64 x) ∧
      W.cell? ⟨b, 5, none⟩ = some (.int .i64 c.count) ∧ W.cell? ⟨b, 6, none⟩ = some (.int .i64 c.total) ∧ W.cell? ⟨b, 7, none⟩ = some (.int .i64 c.depth) ∧ W.cell? ⟨b, 8, none⟩ = some (.pointer pc))
    (first
      | (refine ⟨hB0.drew, hR0, ?_, ?_, ?_, ?_, ?_, ?_, ?_, ?_, ?_, ?_, ?_, ?_, ?_, ?_, ?_, ?_, ?_⟩ <;> first | exact keep_of hB0.drew (by assumption) | simp [go_sem])
      | (have hS := ‹Below w.heap.size w _ ∧ _›; refine ⟨hS.1.trans (kk.mono hS.1.size), hS.2.1.keep kk, ?_, ?_, ?_, ?_, ?_, ?_, ?_, ?_, ?_, ?_, ?_, ?_, ?_, ?_, ?_, ?_, ?_⟩ <;> exact keep_of kk (by simp only [hS]))
      | (have hS := ‹Below w.heap.size w _ ∧ _›; refine ⟨below_set4 hS.1 (by omega), ⟨_, _, _, _, heap_set4 hS.2.1⟩, ?_, ?_, ?_, ?_, ?_, ?_, ?_, ?_, ?_, ?_, ?_, ?_, ?_, ?_, ?_, ?_, ?_⟩ <;> exact cell_set4 (by simp <;> omega) (by simp only [hS])))
    (first
      | (go_at_call_of 54 (Value.agg #[.int .i64 c.count, .int .i64 c.total, .int .i64 c.depth, .pointer pc]); refine (build_any ?_ ?_ O2.out).mono ?_; (exact HC.out.below (‹Below w.heap.size w _ ∧ _›).1); (exact HR.out.below (‹Below w.heap.size w _ ∧ _›).1); rintro e w2 ⟨_, p2, rfl, rfl, n2, kk⟩)
      | (go_at_call_of 54 (Value.agg #[.int .i64 l.count, .int .i64 l.total, .int .i64 l.depth, .pointer pl]); refine (build_any ?_ ?_ O1.out).mono ?_; (exact HL.out.below (‹Below w.heap.size w _ ∧ _›).1); (exact HA.out.below (‹Below w.heap.size w _ ∧ _›).1); rintro e w1 ⟨_, p1, rfl, rfl, n1, kk⟩)
      | (go_at_call_of 54 (Value.pointer p2); refine (build_any ?_ ?_ HO.out).mono ?_; (exact n1.below kk); (exact n2); rintro e w3 ⟨_, p3, rfl, rfl, n3, kk⟩; have hR3 := (‹Below w.heap.size w _ ∧ Room _ _ ∧ _›).2.1.keep kk; obtain ⟨v0, v1, v2, v3, c0, c1, c2, c3, f0, f1, f2, f3⟩ := hR3.open_))
  go_wp2_with fail
  exact bodyPost_ret (res_rope rfl (g := w.heap.size + 1 + 1) rfl (heap_set4 hR3)) rfl (gives_set rfl n3 hR3 (‹Below w.heap.size w _ ∧ _›).1)
end Go.Proofs.Ytfkjnepafgehiaa
