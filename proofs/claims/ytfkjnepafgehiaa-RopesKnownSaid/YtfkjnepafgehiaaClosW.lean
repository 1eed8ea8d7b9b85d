/- The walks of balance's closures. -/
import Derived.Test.YtfkjnepafgehiaaSpreadW
namespace Go.Proofs.Ytfkjnepafgehiaa
open Go.RowKit

set_option maxHeartbeats 2000000 in
theorem clos61 {l r : T} {s : Int} {pl pr : Option Addr} {w : World} {g0 g1 g2 : Nat} (h0 : w.heap[g0]? = some (.cells (rc l.count l.total l.depth pl) 27 (0, 0))) (h1 : w.heap[g1]? = some (.cells #[.int .i64 s] 2 (0, 0)))
    (h2 : w.heap[g2]? = some (.cells (rc r.count r.total r.depth pr) 27 (0, 0))) (hl : Nd w l pl) (hr : Nd w r pr) (ho : Ok (T.node l s r).list) :
    Calls Try.prog 61 #[.pointer (some ⟨g0, 0, none⟩), .pointer (some ⟨g1, 0, none⟩), .pointer (some ⟨g2, 0, none⟩)] w (Gives (· = T.node l s r) w) := by
  obtain ⟨e0, e1, e2, e3⟩ := rc_cells h0
  have q1 := cell_of_one h1
  obtain ⟨i0, i1, i2, i3⟩ := rc_cells h2
  have k0 := heap_lt h0
  have k1 := heap_lt h1
  have k2 := heap_lt h2
  have HL := Lib.hid hl
  have HR := Lib.hid hr
  have HO := Lib.hid ho
  have hR0 : Room (w.alloc (.cells #[.int .i64 0, .int .i64 0, .int .i64 0, .pointer none] 27)) w.heap.size := ⟨_, _, _, _, new_at _ rfl⟩
  have hB0 : Below w.heap.size w (w.alloc (.cells #[.int .i64 0, .int .i64 0, .int .i64 0, .pointer none] 27)) := (Below.refl _ _).alloc (Nat.le_refl _) _
  clear h0 h1 h2 hl hr ho
  go_enter Try.func61, Try.ntmps61
  go_wp2_with fail
  refine (build_any (HL.out.below hB0) (HR.out.below hB0) HO.out).mono ?_
  rintro e w3 ⟨_, p3, rfl, rfl, n3, kk⟩
  have hR3 := hR0.keep kk
  have hb3 := hB0.trans (kk.mono hB0.size)
  obtain ⟨v0, v1, v2, v3, c0, c1, c2, c3, f0, f1, f2, f3⟩ := hR3.open_
  go_wp2_with fail
  exact bodyPost_ret (res_rope rfl (g := w.heap.size) rfl (heap_set4 hR3)) rfl (gives_set rfl n3 hR3 (below_set4 hb3 (Nat.le_refl _)))

set_option maxHeartbeats 2000000 in
theorem clos62 {ll x1 x2 r : T} {ls x s : Int} {pll plr pr : Option Addr} {w : World} {b g0 g1 g2 : Nat} (h0 : w.heap[g0]? = some (.cells #[.pointer (some ⟨b, 0, none⟩)] 25 (0, 0))) (h1 : w.heap[g1]? = some (.cells #[.int .i64 s] 2 (0, 0))) (h2 : w.heap[g2]? = some (.cells (rc r.count r.total r.depth pr) 27 (0, 0)))
    (hn : w.heap[b]? = some (.cells (nc ll pll ls (T.node x1 x x2) plr) 75 (0, 0))) (hll : Nd w ll pll) (hlr : Nd w (T.node x1 x x2) plr) (hr : Nd w r pr) (ho : Ok (T.node (T.node ll ls x1) x (T.node x2 s r)).list) :
    Calls Try.prog 62 #[.pointer (some ⟨g0, 0, none⟩), .pointer (some ⟨g1, 0, none⟩), .pointer (some ⟨g2, 0, none⟩)] w (Gives (· = T.node (T.node ll ls x1) x (T.node x2 s r)) w) := by
  obtain ⟨bx, px1, px2, rfl, hx, hx1, hx2⟩ := hlr
  have q0 := cell_of_one h0
  have q1 := cell_of_one h1
  obtain ⟨e0, e1, e2, e3⟩ := rc_cells h2
  obtain ⟨i0, i1, i2, i3, i4, i5, i6, i7, i8⟩ := nd_cells hn
  have k0 := heap_lt h0
  have k1 := heap_lt h1
  have k2 := heap_lt h2
  have k3 := heap_lt hn
  have k4 := heap_lt hx
  have HX := Lib.hid hx
  have HLL := Lib.hid hll
  have HR := Lib.hid hr
  have HX1 := Lib.hid hx1
  have HX2 := Lib.hid hx2
  have HO := Lib.hid ho
  have hR0 : Room (w.alloc (.cells #[.int .i64 0, .int .i64 0, .int .i64 0, .pointer none] 27)) w.heap.size := ⟨_, _, _, _, new_at _ rfl⟩
  have hB0 : Below w.heap.size w (w.alloc (.cells #[.int .i64 0, .int .i64 0, .int .i64 0, .pointer none] 27)) := (Below.refl _ _).alloc (Nat.le_refl _) _
  clear h0 h1 h2 hn ho hll hr hx1 hx2 hx
  go_enter Try.func62, Try.ntmps62
  go_wp2_with fail
  go_region_held3 (fun W => Below w.heap.size w W ∧ Room W (w.heap.size) ∧ W.cell? ⟨g0, 0, none⟩ = some (.pointer (some ⟨b, 0, none⟩)) ∧ W.cell? ⟨g1, 0, none⟩ = some (.int .i64 s) ∧ W.cell? ⟨g2, 0, none⟩ = some (.int .i64 r.count) ∧ W.cell? ⟨g2, 1, none⟩ = some (.int .i64 r.total) ∧ W.cell? ⟨g2, 2, none⟩ = some (.int .i64 r.depth) ∧ W.cell? ⟨g2, 3, none⟩ = some (.pointer pr) ∧ W.cell? ⟨b, 0, none⟩ = some (.int .i64 ll.count) ∧ W.cell? ⟨b, 1, none⟩ = some (.int .i64 ll.total) ∧ W.cell? ⟨b, 2, none⟩ = some (.int .i64 ll.depth) ∧ W.cell? ⟨b, 3, none⟩ = some (.pointer pll) ∧ W.cell? ⟨b, 4, none⟩ = some (.int .i64 ls) ∧ W.cell? ⟨b, 5, none⟩ = some (.int .i64 (T.node x1 x x2).count) ∧ W.cell? ⟨b, 6, none⟩ = some (.int .i64 (T.node x1 x x2).total) ∧ W.cell? ⟨b, 7, none⟩ = some (.int .i64 (T.node x1 x x2).depth) ∧ W.cell? ⟨b, 8, none⟩ = some (.pointer (some ⟨bx, 0, none⟩)))
    (first
      | (refine ⟨hB0.drew, hR0, ?_, ?_, ?_, ?_, ?_, ?_, ?_, ?_, ?_, ?_, ?_, ?_, ?_, ?_, ?_⟩ <;> first | assumption | exact keep_of hB0.drew (by assumption) | simp [go_sem])
      | (have hS := ‹Below w.heap.size w _ ∧ Room _ _ ∧ _›; refine ⟨hS.1.trans (kk.mono hS.1.size), hS.2.1.keep kk, ?_, ?_, ?_, ?_, ?_, ?_, ?_, ?_, ?_, ?_, ?_, ?_, ?_, ?_, ?_⟩ <;> exact keep_of kk (by simp only [hS]))
      | (have hS := ‹Below w.heap.size w _ ∧ Room _ _ ∧ _›; refine ⟨below_set4 hS.1 (by omega), ⟨_, _, _, _, heap_set4 hS.2.1⟩, ?_, ?_, ?_, ?_, ?_, ?_, ?_, ?_, ?_, ?_, ?_, ?_, ?_, ?_, ?_⟩ <;> exact cell_set4 (by simp <;> omega) (by simp only [hS])))
    (first
      | (go_at_call 63; refine (spread_any ?_ ?_ ?_ ?_ (keep_heap ?_ HX.out) HO.out).mono ?_; (exact HLL.out.below (‹Below w.heap.size w _ ∧ _›).1); (exact HX1.out.below (‹Below w.heap.size w _ ∧ _›).1); (exact HX2.out.below (‹Below w.heap.size w _ ∧ _›).1); (exact HR.out.below (‹Below w.heap.size w _ ∧ _›).1); (exact (‹Below w.heap.size w _ ∧ _›).1); rintro e w3 ⟨_, p3, rfl, rfl, n3, kk⟩; have hR3 := (‹Below w.heap.size w _ ∧ Room _ _ ∧ _›).2.1.keep kk; obtain ⟨v0, v1, v2, v3, c0, c1, c2, c3, f0, f1, f2, f3⟩ := hR3.open_))
  go_wp2_with fail
  exact bodyPost_ret (res_rope rfl (g := w.heap.size) rfl (heap_set4 hR3)) rfl (gives_set rfl n3 hR3 (‹Below w.heap.size w _ ∧ _›).1)

set_option maxHeartbeats 2000000 in
theorem clos64 {ll lr r : T} {ls s : Int} {pll plr pr : Option Addr} {w : World} {b g0 g1 g2 : Nat} (h0 : w.heap[g0]? = some (.cells #[.pointer (some ⟨b, 0, none⟩)] 25 (0, 0))) (h1 : w.heap[g1]? = some (.cells #[.int .i64 s] 2 (0, 0))) (h2 : w.heap[g2]? = some (.cells (rc r.count r.total r.depth pr) 27 (0, 0)))
    (hn : w.heap[b]? = some (.cells (nc ll pll ls lr plr) 75 (0, 0))) (hll : Nd w ll pll) (hlr : Nd w lr plr) (hr : Nd w r pr) (ho : Ok (T.node ll ls (T.node lr s r)).list) :
    Calls Try.prog 64 #[.pointer (some ⟨g0, 0, none⟩), .pointer (some ⟨g1, 0, none⟩), .pointer (some ⟨g2, 0, none⟩)] w (Gives (· = T.node ll ls (T.node lr s r)) w) := by
  have q0 := cell_of_one h0
  have q1 := cell_of_one h1
  obtain ⟨e0, e1, e2, e3⟩ := rc_cells h2
  obtain ⟨i0, i1, i2, i3, i4, i5, i6, i7, i8⟩ := nd_cells hn
  have k0 := heap_lt h0
  have k1 := heap_lt h1
  have k2 := heap_lt h2
  have k3 := heap_lt hn
  have HLL := Lib.hid hll
  have HLR := Lib.hid hlr
  have HR := Lib.hid hr
  have HO := Lib.hid ho
  have O1 := Lib.hid (T.parts ho).2.1
  have hR0 : Room (w.alloc (.cells #[.int .i64 0, .int .i64 0, .int .i64 0, .pointer none] 27)) w.heap.size := ⟨_, _, _, _, new_at _ rfl⟩
  have hB0 : Below w.heap.size w (w.alloc (.cells #[.int .i64 0, .int .i64 0, .int .i64 0, .pointer none] 27)) := (Below.refl _ _).alloc (Nat.le_refl _) _
  clear h0 h1 h2 hn ho hll hlr hr
  go_enter Try.func64, Try.ntmps64
  go_wp2_with fail
  go_region_held3 (fun W => Below w.heap.size w W ∧ Room W (w.heap.size) ∧ W.cell? ⟨g0, 0, none⟩ = some (.pointer (some ⟨b, 0, none⟩)) ∧ W.cell? ⟨g1, 0, none⟩ = some (.int .i64 s) ∧ W.cell? ⟨g2, 0, none⟩ = some (.int .i64 r.count) ∧ W.cell? ⟨g2, 1, none⟩ = some (.int .i64 r.total) ∧ W.cell? ⟨g2, 2, none⟩ = some (.int .i64 r.depth) ∧ W.cell? ⟨g2, 3, none⟩ = some (.pointer pr) ∧ W.cell? ⟨b, 0, none⟩ = some (.int .i64 ll.count) ∧ W.cell? ⟨b, 1, none⟩ = some (.int .i64 ll.total) ∧ W.cell? ⟨b, 2, none⟩ = some (.int .i64 ll.depth) ∧ W.cell? ⟨b, 3, none⟩ = some (.pointer pll) ∧ W.cell? ⟨b, 4, none⟩ = some (.int .i64 ls) ∧ W.cell? ⟨b, 5, none⟩ = some (.int .i64 lr.count) ∧ W.cell? ⟨b, 6, none⟩ = some (.int .i64 lr.total) ∧ W.cell? ⟨b, 7, none⟩ = some (.int .i64 lr.depth) ∧ W.cell? ⟨b, 8, none⟩ = some (.pointer plr))
    (first
      | (refine ⟨hB0.drew, hR0, ?_, ?_, ?_, ?_, ?_, ?_, ?_, ?_, ?_, ?_, ?_, ?_, ?_, ?_, ?_⟩ <;> first | assumption | exact keep_of hB0.drew (by assumption) | simp [go_sem])
      | (have hS := ‹Below w.heap.size w _ ∧ Room _ _ ∧ _›; refine ⟨hS.1.trans (kk.mono hS.1.size), hS.2.1.keep kk, ?_, ?_, ?_, ?_, ?_, ?_, ?_, ?_, ?_, ?_, ?_, ?_, ?_, ?_, ?_⟩ <;> exact keep_of kk (by simp only [hS]))
      | (have hS := ‹Below w.heap.size w _ ∧ Room _ _ ∧ _›; refine ⟨below_set4 hS.1 (by omega), ⟨_, _, _, _, heap_set4 hS.2.1⟩, ?_, ?_, ?_, ?_, ?_, ?_, ?_, ?_, ?_, ?_, ?_, ?_, ?_, ?_, ?_⟩ <;> exact cell_set4 (by simp <;> omega) (by simp only [hS])))
    (first
      | (go_at_call_of 54 (Value.agg #[.int .i64 lr.count, .int .i64 lr.total, .int .i64 lr.depth, .pointer plr]); refine (build_any ?_ ?_ O1.out).mono ?_; (exact HLR.out.below (‹Below w.heap.size w _ ∧ _›).1); (exact HR.out.below (‹Below w.heap.size w _ ∧ _›).1); rintro e w1 ⟨_, p1, rfl, rfl, n1, kk⟩)
      | (go_at_call_of 54 (Value.pointer p1); refine (build_any ?_ ?_ HO.out).mono ?_; (exact HLL.out.below (‹Below w.heap.size w _ ∧ _›).1); (exact n1); rintro e w3 ⟨_, p3, rfl, rfl, n3, kk⟩; have hR3 := (‹Below w.heap.size w _ ∧ Room _ _ ∧ _›).2.1.keep kk; obtain ⟨v0, v1, v2, v3, c0, c1, c2, c3, f0, f1, f2, f3⟩ := hR3.open_))
  go_wp2_with fail
  exact bodyPost_ret (res_rope rfl (g := w.heap.size) rfl (heap_set4 hR3)) rfl (gives_set rfl n3 hR3 (‹Below w.heap.size w _ ∧ _›).1)

set_option maxHeartbeats 2000000 in
theorem clos65 {l x1 x2 rr : T} {rs x s : Int} {pl prl prr : Option Addr} {w : World} {b g0 g1 g2 : Nat} (h0 : w.heap[g0]? = some (.cells (rc l.count l.total l.depth pl) 27 (0, 0))) (h1 : w.heap[g1]? = some (.cells #[.int .i64 s] 2 (0, 0))) (h2 : w.heap[g2]? = some (.cells #[.pointer (some ⟨b, 0, none⟩)] 25 (0, 0)))
    (hn : w.heap[b]? = some (.cells (nc (T.node x1 x x2) prl rs rr prr) 75 (0, 0))) (hl : Nd w l pl) (hrl : Nd w (T.node x1 x x2) prl) (hrr : Nd w rr prr) (ho : Ok (T.node (T.node l s x1) x (T.node x2 rs rr)).list) :
    Calls Try.prog 65 #[.pointer (some ⟨g0, 0, none⟩), .pointer (some ⟨g1, 0, none⟩), .pointer (some ⟨g2, 0, none⟩)] w (Gives (· = T.node (T.node l s x1) x (T.node x2 rs rr)) w) := by
  obtain ⟨bx, px1, px2, rfl, hx, hx1, hx2⟩ := hrl
  obtain ⟨e0, e1, e2, e3⟩ := rc_cells h0
  have q1 := cell_of_one h1
  have q2 := cell_of_one h2
  obtain ⟨i0, i1, i2, i3, i4, i5, i6, i7, i8⟩ := nd_cells hn
  have k0 := heap_lt h0
  have k1 := heap_lt h1
  have k2 := heap_lt h2
  have k3 := heap_lt hn
  have k4 := heap_lt hx
  have HX := Lib.hid hx
  have HL := Lib.hid hl
  have HRR := Lib.hid hrr
  have HX1 := Lib.hid hx1
  have HX2 := Lib.hid hx2
  have HO := Lib.hid ho
  have hR0 : Room (w.alloc (.cells #[.int .i64 0, .int .i64 0, .int .i64 0, .pointer none] 27)) w.heap.size := ⟨_, _, _, _, new_at _ rfl⟩
  have hB0 : Below w.heap.size w (w.alloc (.cells #[.int .i64 0, .int .i64 0, .int .i64 0, .pointer none] 27)) := (Below.refl _ _).alloc (Nat.le_refl _) _
  clear h0 h1 h2 hn ho hl hrr hx1 hx2 hx
  go_enter Try.func65, Try.ntmps65
  go_wp2_with fail
  go_region_held3 (fun W => Below w.heap.size w W ∧ Room W (w.heap.size) ∧ W.cell? ⟨g0, 0, none⟩ = some (.int .i64 l.count) ∧ W.cell? ⟨g0, 1, none⟩ = some (.int .i64 l.total) ∧ W.cell? ⟨g0, 2, none⟩ = some (.int .i64 l.depth) ∧ W.cell? ⟨g0, 3, none⟩ = some (.pointer pl) ∧ W.cell? ⟨g1, 0, none⟩ = some (.int .i64 s) ∧ W.cell? ⟨g2, 0, none⟩ = some (.pointer (some ⟨b, 0, none⟩)) ∧ W.cell? ⟨b, 0, none⟩ = some (.int .i64 (T.node x1 x x2).count) ∧ W.cell? ⟨b, 1, none⟩ = some (.int .i64 (T.node x1 x x2).total) ∧ W.cell? ⟨b, 2, none⟩ = some (.int .i64 (T.node x1 x x2).depth) ∧ W.cell? ⟨b, 3, none⟩ = some (.pointer (some ⟨bx, 0, none⟩)) ∧ W.cell? ⟨b, 4, none⟩ = some (.int .i64 rs) ∧ W.cell? ⟨b, 5, none⟩ = some (.int .i64 rr.count) ∧ W.cell? ⟨b, 6, none⟩ = some (.int .i64 rr.total) ∧ W.cell? ⟨b, 7, none⟩ = some (.int .i64 rr.depth) ∧ W.cell? ⟨b, 8, none⟩ = some (.pointer prr))
    (first
      | (refine ⟨hB0.drew, hR0, ?_, ?_, ?_, ?_, ?_, ?_, ?_, ?_, ?_, ?_, ?_, ?_, ?_, ?_, ?_⟩ <;> first | assumption | exact keep_of hB0.drew (by assumption) | simp [go_sem])
      | (have hS := ‹Below w.heap.size w _ ∧ Room _ _ ∧ _›; refine ⟨hS.1.trans (kk.mono hS.1.size), hS.2.1.keep kk, ?_, ?_, ?_, ?_, ?_, ?_, ?_, ?_, ?_, ?_, ?_, ?_, ?_, ?_, ?_⟩ <;> exact keep_of kk (by simp only [hS]))
      | (have hS := ‹Below w.heap.size w _ ∧ Room _ _ ∧ _›; refine ⟨below_set4 hS.1 (by omega), ⟨_, _, _, _, heap_set4 hS.2.1⟩, ?_, ?_, ?_, ?_, ?_, ?_, ?_, ?_, ?_, ?_, ?_, ?_, ?_, ?_, ?_⟩ <;> exact cell_set4 (by simp <;> omega) (by simp only [hS])))
    (first
      | (go_at_call 63; refine (spread_any ?_ ?_ ?_ ?_ (keep_heap ?_ HX.out) HO.out).mono ?_; (exact HL.out.below (‹Below w.heap.size w _ ∧ _›).1); (exact HX1.out.below (‹Below w.heap.size w _ ∧ _›).1); (exact HX2.out.below (‹Below w.heap.size w _ ∧ _›).1); (exact HRR.out.below (‹Below w.heap.size w _ ∧ _›).1); (exact (‹Below w.heap.size w _ ∧ _›).1); rintro e w3 ⟨_, p3, rfl, rfl, n3, kk⟩; have hR3 := (‹Below w.heap.size w _ ∧ Room _ _ ∧ _›).2.1.keep kk; obtain ⟨v0, v1, v2, v3, c0, c1, c2, c3, f0, f1, f2, f3⟩ := hR3.open_))
  go_wp2_with fail
  exact bodyPost_ret (res_rope rfl (g := w.heap.size) rfl (heap_set4 hR3)) rfl (gives_set rfl n3 hR3 (‹Below w.heap.size w _ ∧ _›).1)

set_option maxHeartbeats 2000000 in
theorem clos66 {l rl rr : T} {rs s : Int} {pl prl prr : Option Addr} {w : World} {b g0 g1 g2 : Nat} (h0 : w.heap[g0]? = some (.cells (rc l.count l.total l.depth pl) 27 (0, 0))) (h1 : w.heap[g1]? = some (.cells #[.int .i64 s] 2 (0, 0))) (h2 : w.heap[g2]? = some (.cells #[.pointer (some ⟨b, 0, none⟩)] 25 (0, 0)))
    (hn : w.heap[b]? = some (.cells (nc rl prl rs rr prr) 75 (0, 0))) (hl : Nd w l pl) (hrl : Nd w rl prl) (hrr : Nd w rr prr) (ho : Ok (T.node (T.node l s rl) rs rr).list) :
    Calls Try.prog 66 #[.pointer (some ⟨g0, 0, none⟩), .pointer (some ⟨g1, 0, none⟩), .pointer (some ⟨g2, 0, none⟩)] w (Gives (· = T.node (T.node l s rl) rs rr) w) := by
  obtain ⟨e0, e1, e2, e3⟩ := rc_cells h0
  have q1 := cell_of_one h1
  have q2 := cell_of_one h2
  obtain ⟨i0, i1, i2, i3, i4, i5, i6, i7, i8⟩ := nd_cells hn
  have k0 := heap_lt h0
  have k1 := heap_lt h1
  have k2 := heap_lt h2
  have k3 := heap_lt hn
  have HL := Lib.hid hl
  have HRL := Lib.hid hrl
  have HRR := Lib.hid hrr
  have HO := Lib.hid ho
  have O1 := Lib.hid (T.parts ho).1
  have hR0 : Room (w.alloc (.cells #[.int .i64 0, .int .i64 0, .int .i64 0, .pointer none] 27)) w.heap.size := ⟨_, _, _, _, new_at _ rfl⟩
  have hB0 : Below w.heap.size w (w.alloc (.cells #[.int .i64 0, .int .i64 0, .int .i64 0, .pointer none] 27)) := (Below.refl _ _).alloc (Nat.le_refl _) _
  clear h0 h1 h2 hn ho hl hrl hrr
  go_enter Try.func66, Try.ntmps66
  go_wp2_with fail
  go_region_held3 (fun W => Below w.heap.size w W ∧ Room W (w.heap.size) ∧ W.cell? ⟨g0, 0, none⟩ = some (.int .i64 l.count) ∧ W.cell? ⟨g0, 1, none⟩ = some (.int .i64 l.total) ∧ W.cell? ⟨g0, 2, none⟩ = some (.int .i64 l.depth) ∧ W.cell? ⟨g0, 3, none⟩ = some (.pointer pl) ∧ W.cell? ⟨g1, 0, none⟩ = some (.int .i64 s) ∧ W.cell? ⟨g2, 0, none⟩ = some (.pointer (some ⟨b, 0, none⟩)) ∧ W.cell? ⟨b, 0, none⟩ = some (.int .i64 rl.count) ∧ W.cell? ⟨b, 1, none⟩ = some (.int .i64 rl.total) ∧ W.cell? ⟨b, 2, none⟩ = some (.int .i64 rl.depth) ∧ W.cell? ⟨b, 3, none⟩ = some (.pointer prl) ∧ W.cell? ⟨b, 4, none⟩ = some (.int .i64 rs) ∧ W.cell? ⟨b, 5, none⟩ = some (.int .i64 rr.count) ∧ W.cell? ⟨b, 6, none⟩ = some (.int .i64 rr.total) ∧ W.cell? ⟨b, 7, none⟩ = some (.int .i64 rr.depth) ∧ W.cell? ⟨b, 8, none⟩ = some (.pointer prr))
    (first
      | (refine ⟨hB0.drew, hR0, ?_, ?_, ?_, ?_, ?_, ?_, ?_, ?_, ?_, ?_, ?_, ?_, ?_, ?_, ?_⟩ <;> first | assumption | exact keep_of hB0.drew (by assumption) | simp [go_sem])
      | (have hS := ‹Below w.heap.size w _ ∧ Room _ _ ∧ _›; refine ⟨hS.1.trans (kk.mono hS.1.size), hS.2.1.keep kk, ?_, ?_, ?_, ?_, ?_, ?_, ?_, ?_, ?_, ?_, ?_, ?_, ?_, ?_, ?_⟩ <;> exact keep_of kk (by simp only [hS]))
      | (have hS := ‹Below w.heap.size w _ ∧ Room _ _ ∧ _›; refine ⟨below_set4 hS.1 (by omega), ⟨_, _, _, _, heap_set4 hS.2.1⟩, ?_, ?_, ?_, ?_, ?_, ?_, ?_, ?_, ?_, ?_, ?_, ?_, ?_, ?_, ?_⟩ <;> exact cell_set4 (by simp <;> omega) (by simp only [hS])))
    (first
      | (go_at_call_of 54 (Value.agg #[.int .i64 l.count, .int .i64 l.total, .int .i64 l.depth, .pointer pl]); refine (build_any ?_ ?_ O1.out).mono ?_; (exact HL.out.below (‹Below w.heap.size w _ ∧ _›).1); (exact HRL.out.below (‹Below w.heap.size w _ ∧ _›).1); rintro e w1 ⟨_, p1, rfl, rfl, n1, kk⟩)
      | (go_at_call_of 54 (Value.pointer p1); refine (build_any ?_ ?_ HO.out).mono ?_; (exact n1); (exact HRR.out.below (‹Below w.heap.size w _ ∧ _›).1); rintro e w3 ⟨_, p3, rfl, rfl, n3, kk⟩; have hR3 := (‹Below w.heap.size w _ ∧ Room _ _ ∧ _›).2.1.keep kk; obtain ⟨v0, v1, v2, v3, c0, c1, c2, c3, f0, f1, f2, f3⟩ := hR3.open_))
  go_wp2_with fail
  exact bodyPost_ret (res_rope rfl (g := w.heap.size) rfl (heap_set4 hR3)) rfl (gives_set rfl n3 hR3 (‹Below w.heap.size w _ ∧ _›).1)

end Go.Proofs.Ytfkjnepafgehiaa
