/- The walks of join, put and take. -/
import Derived.Test.YtfkjnepafgehiaaSplitA
namespace Go.Proofs.Ytfkjnepafgehiaa
open Go.RowKit

theorem split_any {t : T} {i : Nat} {p : Option Addr} {w : World} (hi : i ≤ t.count) (hn : Nd w t p) (hb : t.Bal) (ho : Ok t.list) : Calls Try.prog 47 #[.agg #[.int .i64 t.count, .int .i64 t.total, .int .i64 t.depth, .pointer p], .int .i64 i] w (Two (Sp t i) w) := split_at t hi hn hb ho
/-- what join makes of two trees -/
structure Jn (a b t : T) : Prop where
  list : t.list = a.list ++ b.list
  bal : t.Bal
theorem sp_last {a r l : T} (h : 0 < a.count) (hk : Sp a (a.count - 1) r l) : r.list ++ [l.total] = a.list := by
  have h1 : l.list.length = 1 := by rw [hk.lb, List.length_drop, T.len]; omega
  obtain ⟨y, hy⟩ := List.length_eq_one_iff.1 h1
  have h2 : l.total = y := by rw [← T.sum, hy]; simp
  rw [h2, ← hy, hk.la, hk.lb, List.take_append_drop]
theorem jn_of {a b r l u : T} (h : 0 < a.count) (hk : Sp a (a.count - 1) r l) (hu : Lk r l.total b u) : Jn a b u :=
  ⟨by rw [hu.list, ← sp_last h hk, List.append_assoc]; rfl, hu.bal⟩
theorem jn_ok {a b r l : T} (h : 0 < a.count) (hk : Sp a (a.count - 1) r l) (ho : Ok (a.list ++ b.list)) : Ok (r.list ++ l.total :: b.list) := by
  rw [← sp_last h hk, List.append_assoc] at ho
  exact ho
theorem set4_own {W : World} {g : Nat} {a0 a1 a2 a3 : Value} (h : Room W g) : ∀ i v, #[a0, a1, a2, a3][i]? = some v →
    ((((W.setCell ⟨g, 0, none⟩ a0).setCell ⟨g, 1, none⟩ a1).setCell ⟨g, 2, none⟩ a2).setCell ⟨g, 3, none⟩ a3).cell? ⟨g, i, none⟩ = some v := fun i v hv => by
  rw [cell_of_row _ g i _ 27 (0, 0) (heap_set4 h)]
  exact hv
theorem below_two (w : World) (A B : Obj) : Below w.heap.size w ((w.alloc A).alloc B) := ((Below.refl _ _).alloc (Nat.le_refl _) _).alloc (by simp) _
theorem two_heap (w : World) (A B : Obj) : ((w.alloc A).alloc B).heap[w.heap.size]? = some A ∧ ((w.alloc A).alloc B).heap[w.heap.size + 1]? = some B :=
  ⟨(Below.heap_alloc _ _ _ (by simp)).trans (new_at _ (by simp)), new_at _ (by simp)⟩

set_option maxHeartbeats 1000000 in
theorem join_nil {b : T} {pb : Option Addr} {w : World} (hb : Nd w b pb) (bb : b.Bal) :
    Calls Try.prog 49 #[.agg #[.int .i64 0, .int .i64 0, .int .i64 0, .pointer none], .agg #[.int .i64 b.count, .int .i64 b.total, .int .i64 b.depth, .pointer pb]] w (Gives (Jn .nil b) w) := by
  have HN := Lib.hid hb
  have HB : Hid (Jn .nil b b) := Lib.hid ⟨rfl, bb⟩
  clear hb bb
  go_enter Try.func49, Try.ntmps49
  go_wp2_with fail
  exact bodyPost_ret (res_rope rfl (g := w.heap.size + 1 + 1) rfl (three_heap w _ _ _).2) rfl ⟨b, pb, HB.out, rfl, HN.out.below (below_three w _ _ _), below_three w _ _ _⟩

set_option maxHeartbeats 2000000 in
theorem join_some {a b : T} {pa pb : Option Addr} {w : World} (h : 0 < a.count) (ha : Nd w a pa) (hb : Nd w b pb) (ba : a.Bal) (bb : b.Bal) (ho : Ok (a.list ++ b.list)) :
    Calls Try.prog 49 #[.agg #[.int .i64 a.count, .int .i64 a.total, .int .i64 a.depth, .pointer pa], .agg #[.int .i64 b.count, .int .i64 b.total, .int .i64 b.depth, .pointer pb]] w (Gives (Jn a b) w) := by
  have hc := (T.bounds ho.app.1).2.2.1
  have e0 : ((a.count : Int) == 0) = false := by simp; omega
  have HS : Hid (∀ W, Below w.heap.size w W → Calls Try.prog 47 #[.agg #[.int .i64 a.count, .int .i64 a.total, .int .i64 a.depth, .pointer pa], .int .i64 ((a.count : Int) - 1)] W (Two (Sp a (a.count - 1)) W)) := Lib.hid (fun W hW => by
    rw [show (a.count : Int) - 1 = ((a.count - 1 : Nat) : Int) by omega]
    exact split_any (by omega) (ha.below hW) ba ho.app.1)
  have JN : Hid (∀ r l u, Sp a (a.count - 1) r l → Lk r l.total b u → Jn a b u) := Lib.hid (fun r l u hk hu => jn_of h hk hu)
  have JO : Hid (∀ r l, Sp a (a.count - 1) r l → Ok (r.list ++ l.total :: b.list)) := Lib.hid (fun r l hk => jn_ok h hk ho)
  have HN := Lib.hid hb
  have HB := Lib.hid bb
  have hB0 := below_three w (.cells #[.int .i64 a.count, .int .i64 a.total, .int .i64 a.depth, .pointer pa] 27) (.cells #[.int .i64 b.count, .int .i64 b.total, .int .i64 b.depth, .pointer pb] 27) (.cells #[.int .i64 0, .int .i64 0, .int .i64 0, .pointer none] 27)
  have hX := (three_heap w (.cells #[.int .i64 a.count, .int .i64 a.total, .int .i64 a.depth, .pointer pa] 27) (.cells #[.int .i64 b.count, .int .i64 b.total, .int .i64 b.depth, .pointer pb] 27) (.cells #[.int .i64 0, .int .i64 0, .int .i64 0, .pointer none] 27)).1
  have hR : Room (((w.alloc (.cells #[.int .i64 a.count, .int .i64 a.total, .int .i64 a.depth, .pointer pa] 27)).alloc (.cells #[.int .i64 b.count, .int .i64 b.total, .int .i64 b.depth, .pointer pb] 27)).alloc (.cells #[.int .i64 0, .int .i64 0, .int .i64 0, .pointer none] 27)) (w.heap.size + 1 + 1) := ⟨_, _, _, _, (three_heap w _ _ _).2⟩
  have HX := Lib.hid hX
  clear ha hb ba bb ho hX
  go_enter Try.func49, Try.ntmps49
  go_wp2_with fail
  refine (HS.out _ hB0).mono ?_
  rintro e w1 ⟨r, pr, l, pl, k1, rfl, nr, nl, kk⟩
  have hb2 := below_two w1 (.cells #[.int .i64 r.count, .int .i64 r.total, .int .i64 r.depth, .pointer pr] 27) (.cells #[.int .i64 l.count, .int .i64 l.total, .int .i64 l.depth, .pointer pl] 27)
  have HX2 := Lib.hid (keep_heap hb2 (keep_heap kk HX.out))
  obtain ⟨x0, x1, x2, x3⟩ := rc_cells HX2.out
  have hR1 := (hR.keep kk).keep hb2
  have hbw := (hB0.trans (kk.mono hB0.size)).trans (hb2.mono (Nat.le_trans hB0.size kk.size))
  have NR := Lib.hid (nr.below hb2)
  have K1 := Lib.hid k1
  clear nr nl kk k1 hb2
  go_wp2_with fail
  refine (link_any NR.out (HN.out.below hbw) K1.out.ba HB.out (JO.out r l K1.out)).mono ?_
  rintro e w3 ⟨t3, p3, k3, rfl, n3, kk⟩
  have hR3 := hR1.keep kk
  have hb3 := hbw.trans (kk.mono hbw.size)
  obtain ⟨v0, v1, v2, v3, f0, f1, f2, f3, f4, f5, f6, f7⟩ := hR3.open_
  go_wp2_with fail
  exact bodyPost_ret (res_rope rfl (g := w.heap.size + 1 + 1) rfl (heap_set4 hR3)) rfl (gives_set (JN.out r l t3 K1.out k3) n3 hR3 (below_set4 hb3 (by omega)))

theorem join_any {a b : T} {pa pb : Option Addr} {w : World} (ha : Nd w a pa) (hb : Nd w b pb) (ba : a.Bal) (bb : b.Bal) (ho : Ok (a.list ++ b.list)) :
    Calls Try.prog 49 #[.agg #[.int .i64 a.count, .int .i64 a.total, .int .i64 a.depth, .pointer pa], .agg #[.int .i64 b.count, .int .i64 b.total, .int .i64 b.depth, .pointer pb]] w (Gives (Jn a b) w) := by
  rcases Nat.eq_zero_or_pos a.count with h | h
  · obtain rfl := T.count_zero h
    obtain rfl : pa = none := ha
    exact join_nil hb bb
  · exact join_some h ha hb ba bb ho

/-- what put makes -/
structure Pt (r : T) (i : Nat) (m t : T) : Prop where
  list : t.list = r.list.take i ++ m.list ++ r.list.drop i
  bal : t.Bal
set_option maxHeartbeats 2000000 in
theorem put_any {r m : T} {i : Nat} {pr pm : Option Addr} {w : World} (hi : i ≤ r.count) (hr : Nd w r pr) (hm : Nd w m pm) (br : r.Bal) (bm : m.Bal) (ho : Ok (r.list.take i ++ m.list ++ r.list.drop i)) (hor : Ok r.list) :
    Calls Try.prog 50 #[.agg #[.int .i64 r.count, .int .i64 r.total, .int .i64 r.depth, .pointer pr], .int .i64 i, .agg #[.int .i64 m.count, .int .i64 m.total, .int .i64 m.depth, .pointer pm]] w (Gives (Pt r i m) w) := by
  have HS : Hid (∀ W, Below w.heap.size w W → Calls Try.prog 47 #[.agg #[.int .i64 r.count, .int .i64 r.total, .int .i64 r.depth, .pointer pr], .int .i64 i] W (Two (Sp r i) W)) := Lib.hid (fun W hW => split_any hi (hr.below hW) br hor)
  have HO := Lib.hid ho
  have HM := Lib.hid hm
  have HB := Lib.hid bm
  have hB0 := below_three w (.cells #[.int .i64 r.count, .int .i64 r.total, .int .i64 r.depth, .pointer pr] 27) (.cells #[.int .i64 m.count, .int .i64 m.total, .int .i64 m.depth, .pointer pm] 27) (.cells #[.int .i64 0, .int .i64 0, .int .i64 0, .pointer none] 27)
  have hX := (three_heap w (.cells #[.int .i64 r.count, .int .i64 r.total, .int .i64 r.depth, .pointer pr] 27) (.cells #[.int .i64 m.count, .int .i64 m.total, .int .i64 m.depth, .pointer pm] 27) (.cells #[.int .i64 0, .int .i64 0, .int .i64 0, .pointer none] 27)).1
  have hR : Room (((w.alloc (.cells #[.int .i64 r.count, .int .i64 r.total, .int .i64 r.depth, .pointer pr] 27)).alloc (.cells #[.int .i64 m.count, .int .i64 m.total, .int .i64 m.depth, .pointer pm] 27)).alloc (.cells #[.int .i64 0, .int .i64 0, .int .i64 0, .pointer none] 27)) (w.heap.size + 1 + 1) := ⟨_, _, _, _, (three_heap w _ _ _).2⟩
  have HX := Lib.hid hX
  clear hr hm br bm ho hX hor
  go_enter Try.func50, Try.ntmps50
  go_wp2_with fail
  refine (HS.out _ hB0).mono ?_
  rintro e w1 ⟨a, pa, b, pb, k1, rfl, na, nb, kk⟩
  go_wp2_with fail
  have hs1 : w.heap.size + 1 + 1 < w1.heap.size := by have := kk.size; simp at this; omega
  have hb2 := below_two w1 (.cells #[.int .i64 a.count, .int .i64 a.total, .int .i64 a.depth, .pointer pa] 27) (.cells #[.int .i64 b.count, .int .i64 b.total, .int .i64 b.depth, .pointer pb] 27)
  obtain ⟨W, hA, hBb, hXm, hRm, hNa, hNb, hbw, hW⟩ : ∃ W : World, W.heap[w1.heap.size]? = some (.cells (rc a.count a.total a.depth pa) 27 (0, 0)) ∧ W.heap[w1.heap.size + 1]? = some (.cells (rc b.count b.total b.depth pb) 27 (0, 0)) ∧
      W.heap[w.heap.size + 1]? = some (.cells (rc m.count m.total m.depth pm) 27 (0, 0)) ∧ Room W (w.heap.size + 1 + 1) ∧ Nd W a pa ∧ Nd W b pb ∧ Below w.heap.size w W ∧ W = (w1.alloc (.cells #[.int .i64 a.count, .int .i64 a.total, .int .i64 a.depth, .pointer pa] 27)).alloc (.cells #[.int .i64 b.count, .int .i64 b.total, .int .i64 b.depth, .pointer pb] 27) :=
    ⟨_, (two_heap w1 _ _).1, (two_heap w1 _ _).2, keep_heap hb2 (keep_heap kk HX.out), (hR.keep kk).keep hb2, na.below hb2, nb.below hb2, (hB0.trans (kk.mono hB0.size)).trans (hb2.mono (Nat.le_trans hB0.size kk.size)), rfl⟩
  rw [← hW]
  have K1 := Lib.hid k1
  have K1a := Lib.hid k1.ba
  have K1b := Lib.hid k1.bb
  have nA := hNa.drew
  have nB := hNb.drew
  have nM := (HM.out.below hbw).drew
  have PO : Hid (Ok (a.list ++ m.list) ∧ Ok ((a.list ++ m.list) ++ b.list)) := Lib.hid (by rw [k1.la, k1.lb]; exact ⟨HO.out.app.1, HO.out⟩)
  clear hW kk hb2 k1 hNa hNb na nb hB0 hR HM HO
  obtain ⟨a0, a1, a2, a3⟩ := rc_cells hA
  obtain ⟨b0, b1, b2, b3⟩ := rc_cells hBb
  obtain ⟨m0, m1, m2, m3⟩ := rc_cells hXm
  obtain ⟨a0', a1', a2', a3'⟩ := rc_cells (w := W.drew) hA
  obtain ⟨b0', b1', b2', b3'⟩ := rc_cells (w := W.drew) hBb
  obtain ⟨m0', m1', m2', m3'⟩ := rc_cells (w := W.drew) hXm
  clear hA hBb hXm
  go_region_held3 (fun U => Below w.heap.size w U ∧ Room U (w.heap.size + 1 + 1) ∧ Nd U a pa ∧ Nd U m pm ∧ Nd U b pb ∧ U.cell? ⟨w1.heap.size, 0, none⟩ = some (.int .i64 a.count) ∧ U.cell? ⟨w1.heap.size, 1, none⟩ = some (.int .i64 a.total) ∧ U.cell? ⟨w1.heap.size, 2, none⟩ = some (.int .i64 a.depth) ∧ U.cell? ⟨w1.heap.size, 3, none⟩ = some (.pointer pa) ∧ U.cell? ⟨w.heap.size + 1, 0, none⟩ = some (.int .i64 m.count) ∧ U.cell? ⟨w.heap.size + 1, 1, none⟩ = some (.int .i64 m.total) ∧ U.cell? ⟨w.heap.size + 1, 2, none⟩ = some (.int .i64 m.depth) ∧ U.cell? ⟨w.heap.size + 1, 3, none⟩ = some (.pointer pm) ∧ U.cell? ⟨w1.heap.size + 1, 0, none⟩ = some (.int .i64 b.count) ∧ U.cell? ⟨w1.heap.size + 1, 1, none⟩ = some (.int .i64 b.total) ∧ U.cell? ⟨w1.heap.size + 1, 2, none⟩ = some (.int .i64 b.depth) ∧ U.cell? ⟨w1.heap.size + 1, 3, none⟩ = some (.pointer pb))
    (first
      | ((with_reducible refine ⟨hbw.drew, hRm.drew, ?_, ?_, ?_, ?_, ?_, ?_, ?_, ?_, ?_, ?_, ?_, ?_, ?_, ?_, ?_⟩) <;> with_reducible assumption)
      | (have hS := ‹Below w.heap.size w _ ∧ Room _ _ ∧ Nd _ a pa ∧ Nd _ m pm ∧ Nd _ b pb ∧ _›; (with_reducible refine ⟨hS.1.trans (kk.mono hS.1.size), hS.2.1.keep kk, hS.2.2.1.below kk, hS.2.2.2.1.below kk, hS.2.2.2.2.1.below kk, ?_, ?_, ?_, ?_, ?_, ?_, ?_, ?_, ?_, ?_, ?_, ?_⟩) <;> exact keep_of kk (by simp only [hS]))
      | (have hS := ‹Below w.heap.size w _ ∧ Room _ _ ∧ Nd _ a pa ∧ Nd _ m pm ∧ Nd _ b pb ∧ _›; (with_reducible refine ⟨below_set4 (g := w.heap.size + 1 + 1) hS.1 ?_, room_same (g := w.heap.size + 1 + 1) hS.2.1, hS.2.2.1.set4 (g := w.heap.size + 1 + 1) hS.2.1, hS.2.2.2.1.set4 (g := w.heap.size + 1 + 1) hS.2.1, hS.2.2.2.2.1.set4 (g := w.heap.size + 1 + 1) hS.2.1, ?_, ?_, ?_, ?_, ?_, ?_, ?_, ?_, ?_, ?_, ?_, ?_⟩) <;> first | omega | exact cell_set4 (by simp <;> omega) (by simp only [hS])))
    (first
      | (go_at_call_of 49 (Value.agg #[.int .i64 m.count, .int .i64 m.total, .int .i64 m.depth, .pointer pm]); ((with_reducible refine (join_any ?_ ?_ K1a.out HB.out PO.out.1).mono ?_)); (exact (‹Below w.heap.size w _ ∧ Room _ _ ∧ Nd _ a pa ∧ Nd _ m pm ∧ Nd _ b pb ∧ _›).2.2.1); (exact (‹Below w.heap.size w _ ∧ Room _ _ ∧ Nd _ a pa ∧ Nd _ m pm ∧ Nd _ b pb ∧ _›).2.2.2.1); rintro e w2 ⟨t2, p2, k2, rfl, n2, kk⟩)
      | (go_at_call_of 49 (Value.pointer p2); ((with_reducible refine (join_any n2 ?_ k2.bal K1b.out ?_).mono ?_)); (exact (‹Below w.heap.size w _ ∧ Room _ _ ∧ Nd _ a pa ∧ Nd _ m pm ∧ Nd _ b pb ∧ _›).2.2.2.2.1); (rw [k2.list]; exact PO.out.2); rintro e w3 ⟨t3, p3, k3, rfl, n3, kk⟩; have hR3 := (‹Below w.heap.size w _ ∧ Room _ _ ∧ _›).2.1.keep kk; obtain ⟨v0, v1, v2, v3, c0, c1, c2, c3, f0, f1, f2, f3⟩ := hR3.open_))
  go_wp2_with fail
  exact bodyPost_ret (res_rope rfl (g := w.heap.size + 1 + 1) rfl (heap_set4 hR3)) rfl (gives_set ⟨by rw [k3.list, k2.list, K1.out.la, K1.out.lb], k3.bal⟩ n3 hR3 (‹Below w.heap.size w _ ∧ _›).1)
end Go.Proofs.Ytfkjnepafgehiaa
