/- The walk of with. -/
import Derived.Test.YtdejdnkkbpmmlaaMSplitA
namespace Go.Proofs.Ytdejdnkkbpmmlaa
open Go.RowKit

theorem split_any {t : T} {i : Nat} {p : Option Addr} {w : World} (hi : i ≤ t.count) (hn : Nd w t p) (hb : t.Bal) (ho : Ok t.list) : Calls Try.prog 66 #[.agg #[.int .i64 t.count, .int .i64 t.total, .int .i64 t.depth, .pointer p], .int .i64 i] w (Two (Sp t i) w) := split_at t hi hn hb ho
/-- what join makes of two trees -/
structure Jn (a b t : T) : Prop where
  list : t.list = a.list ++ b.list
  bal : t.Bal
theorem sp_last {a r l : T} (h : 0 < a.count) (hk : Sp a (a.count - 1) r l) : r.list ++ [l.total] = a.list := by
  have h1 : l.list.length = 1 := by rw [hk.lb, List.length_drop, T.len]; omega
  obtain ⟨y, hy⟩ := List.length_eq_one_iff.1 h1
  have h2 : l.total = y := by rw [← T.sum, hy]; simp
  rw [h2, ← hy, hk.la, hk.lb, List.take_append_drop]
theorem jn_of {a b r l u : T} (h : 0 < a.count) (hk : Sp a (a.count - 1) r l) (hu : Lk r l.total b u) : Jn a b u :=
  ⟨by rw [hu.list, ← sp_last h hk, List.append_assoc]; rfl, hu.bal⟩
theorem jn_ok {a b r l : T} (h : 0 < a.count) (hk : Sp a (a.count - 1) r l) (ho : Ok (a.list ++ b.list)) : Ok (r.list ++ l.total :: b.list) := by
  rw [← sp_last h hk, List.append_assoc] at ho
  exact ho
theorem set4_own {W : World} {g : Nat} {a0 a1 a2 a3 : Value} (h : Room W g) : ∀ i v, #[a0, a1, a2, a3][i]? = some v →
    ((((W.setCell ⟨g, 0, none⟩ a0).setCell ⟨g, 1, none⟩ a1).setCell ⟨g, 2, none⟩ a2).setCell ⟨g, 3, none⟩ a3).cell? ⟨g, i, none⟩ = some v := fun i v hv => by
  rw [cell_of_row _ g i _ 29 (0, 0) (heap_set4 h)]
  exact hv
theorem below_two (w : World) (A B : Obj) : Below w.heap.size w ((w.alloc A).alloc B) := ((Below.refl _ _).alloc (Nat.le_refl _) _).alloc (by simp) _
theorem two_heap (w : World) (A B : Obj) : ((w.alloc A).alloc B).heap[w.heap.size]? = some A ∧ ((w.alloc A).alloc B).heap[w.heap.size + 1]? = some B :=
  ⟨(Below.heap_alloc _ _ _ (by simp)).trans (new_at _ (by simp)), new_at _ (by simp)⟩

set_option maxHeartbeats 1000000 in
theorem join_nil {b : T} {pb : Option Addr} {w : World} (hb : Nd w b pb) (bb : b.Bal) :
    Calls Try.prog 67 #[.agg #[.int .i64 0, .int .i64 0, .int .i64 0, .pointer none], .agg #[.int .i64 b.count, .int .i64 b.total, .int .i64 b.depth, .pointer pb]] w (Gives (Jn .nil b) w) := by
  have HN := Lib.hid hb
  have HB : Hid (Jn .nil b b) := Lib.hid ⟨rfl, bb⟩
  clear hb bb
  go_enter Try.func67, Try.ntmps67
  go_wp2_with fail
  exact bodyPost_ret (res_rope rfl (g := w.heap.size + 1 + 1) rfl (three_heap w _ _ _).2) rfl ⟨b, pb, HB.out, rfl, HN.out.below (below_three w _ _ _), below_three w _ _ _⟩

set_option maxHeartbeats 2000000 in
theorem join_some {a b : T} {pa pb : Option Addr} {w : World} (h : 0 < a.count) (ha : Nd w a pa) (hb : Nd w b pb) (ba : a.Bal) (bb : b.Bal) (ho : Ok (a.list ++ b.list)) :
    Calls Try.prog 67 #[.agg #[.int .i64 a.count, .int .i64 a.total, .int .i64 a.depth, .pointer pa], .agg #[.int .i64 b.count, .int .i64 b.total, .int .i64 b.depth, .pointer pb]] w (Gives (Jn a b) w) := by
  have hc := (T.bounds ho.app.1).2.2.1
  have e0 : ((a.count : Int) == 0) = false := by simp; omega
  have HS : Hid (∀ W, Below w.heap.size w W → Calls Try.prog 66 #[.agg #[.int .i64 a.count, .int .i64 a.total, .int .i64 a.depth, .pointer pa], .int .i64 ((a.count : Int) - 1)] W (Two (Sp a (a.count - 1)) W)) := Lib.hid (fun W hW => by
    rw [show (a.count : Int) - 1 = ((a.count - 1 : Nat) : Int) by omega]
    exact split_any (by omega) (ha.below hW) ba ho.app.1)
  have JN : Hid (∀ r l u, Sp a (a.count - 1) r l → Lk r l.total b u → Jn a b u) := Lib.hid (fun r l u hk hu => jn_of h hk hu)
  have JO : Hid (∀ r l, Sp a (a.count - 1) r l → Ok (r.list ++ l.total :: b.list)) := Lib.hid (fun r l hk => jn_ok h hk ho)
  have HN := Lib.hid hb
  have HB := Lib.hid bb
  have hB0 := below_three w (.cells #[.int .i64 a.count, .int .i64 a.total, .int .i64 a.depth, .pointer pa] 29) (.cells #[.int .i64 b.count, .int .i64 b.total, .int .i64 b.depth, .pointer pb] 29) (.cells #[.int .i64 0, .int .i64 0, .int .i64 0, .pointer none] 29)
  have hX := (three_heap w (.cells #[.int .i64 a.count, .int .i64 a.total, .int .i64 a.depth, .pointer pa] 29) (.cells #[.int .i64 b.count, .int .i64 b.total, .int .i64 b.depth, .pointer pb] 29) (.cells #[.int .i64 0, .int .i64 0, .int .i64 0, .pointer none] 29)).1
  have hR : Room (((w.alloc (.cells #[.int .i64 a.count, .int .i64 a.total, .int .i64 a.depth, .pointer pa] 29)).alloc (.cells #[.int .i64 b.count, .int .i64 b.total, .int .i64 b.depth, .pointer pb] 29)).alloc (.cells #[.int .i64 0, .int .i64 0, .int .i64 0, .pointer none] 29)) (w.heap.size + 1 + 1) := ⟨_, _, _, _, (three_heap w _ _ _).2⟩
  have HX := Lib.hid hX
  clear ha hb ba bb ho hX
  go_enter Try.func67, Try.ntmps67
  go_wp2_with fail
  refine (HS.out _ hB0).mono ?_
  rintro e w1 ⟨r, pr, l, pl, k1, rfl, nr, nl, kk⟩
  have hb2 := below_two w1 (.cells #[.int .i64 r.count, .int .i64 r.total, .int .i64 r.depth, .pointer pr] 29) (.cells #[.int .i64 l.count, .int .i64 l.total, .int .i64 l.depth, .pointer pl] 29)
  have HX2 := Lib.hid (keep_heap hb2 (keep_heap kk HX.out))
  obtain ⟨x0, x1, x2, x3⟩ := rc_cells HX2.out
  have hR1 := (hR.keep kk).keep hb2
  have hbw := (hB0.trans (kk.mono hB0.size)).trans (hb2.mono (Nat.le_trans hB0.size kk.size))
  have NR := Lib.hid (nr.below hb2)
  have K1 := Lib.hid k1
  clear nr nl kk k1 hb2
  go_wp2_with fail
  refine (link_any NR.out (HN.out.below hbw) K1.out.ba HB.out (JO.out r l K1.out)).mono ?_
  rintro e w3 ⟨t3, p3, k3, rfl, n3, kk⟩
  have hR3 := hR1.keep kk
  have hb3 := hbw.trans (kk.mono hbw.size)
  obtain ⟨v0, v1, v2, v3, f0, f1, f2, f3, f4, f5, f6, f7⟩ := hR3.open_
  go_wp2_with fail
  exact bodyPost_ret (res_rope rfl (g := w.heap.size + 1 + 1) rfl (heap_set4 hR3)) rfl (gives_set (JN.out r l t3 K1.out k3) n3 hR3 (below_set4 hb3 (by omega)))

theorem join_any {a b : T} {pa pb : Option Addr} {w : World} (ha : Nd w a pa) (hb : Nd w b pb) (ba : a.Bal) (bb : b.Bal) (ho : Ok (a.list ++ b.list)) :
    Calls Try.prog 67 #[.agg #[.int .i64 a.count, .int .i64 a.total, .int .i64 a.depth, .pointer pa], .agg #[.int .i64 b.count, .int .i64 b.total, .int .i64 b.depth, .pointer pb]] w (Gives (Jn a b) w) := by
  rcases Nat.eq_zero_or_pos a.count with h | h
  · obtain rfl := T.count_zero h
    obtain rfl : pa = none := ha
    exact join_nil hb bb
  · exact join_some h ha hb ba bb ho

/-- what put makes -/
structure Pt (r : T) (i : Nat) (m t : T) : Prop where
  list : t.list = r.list.take i ++ m.list ++ r.list.drop i
  bal : t.Bal
set_option maxHeartbeats 2000000 in
theorem put_any {r m : T} {i : Nat} {pr pm : Option Addr} {w : World} (hi : i ≤ r.count) (hr : Nd w r pr) (hm : Nd w m pm) (br : r.Bal) (bm : m.Bal) (ho : Ok (r.list.take i ++ m.list ++ r.list.drop i)) (hor : Ok r.list) :
    Calls Try.prog 53 #[.agg #[.int .i64 r.count, .int .i64 r.total, .int .i64 r.depth, .pointer pr], .int .i64 i, .agg #[.int .i64 m.count, .int .i64 m.total, .int .i64 m.depth, .pointer pm]] w (Gives (Pt r i m) w) := by
  have HS : Hid (∀ W, Below w.heap.size w W → Calls Try.prog 66 #[.agg #[.int .i64 r.count, .int .i64 r.total, .int .i64 r.depth, .pointer pr], .int .i64 i] W (Two (Sp r i) W)) := Lib.hid (fun W hW => split_any hi (hr.below hW) br hor)
  have HO := Lib.hid ho
  have HM := Lib.hid hm
  have HB := Lib.hid bm
  have hB0 := below_three w (.cells #[.int .i64 r.count, .int .i64 r.total, .int .i64 r.depth, .pointer pr] 29) (.cells #[.int .i64 m.count, .int .i64 m.total, .int .i64 m.depth, .pointer pm] 29) (.cells #[.int .i64 0, .int .i64 0, .int .i64 0, .pointer none] 29)
  have hX := (three_heap w (.cells #[.int .i64 r.count, .int .i64 r.total, .int .i64 r.depth, .pointer pr] 29) (.cells #[.int .i64 m.count, .int .i64 m.total, .int .i64 m.depth, .pointer pm] 29) (.cells #[.int .i64 0, .int .i64 0, .int .i64 0, .pointer none] 29)).1
  have hR : Room (((w.alloc (.cells #[.int .i64 r.count, .int .i64 r.total, .int .i64 r.depth, .pointer pr] 29)).alloc (.cells #[.int .i64 m.count, .int .i64 m.total, .int .i64 m.depth, .pointer pm] 29)).alloc (.cells #[.int .i64 0, .int .i64 0, .int .i64 0, .pointer none] 29)) (w.heap.size + 1 + 1) := ⟨_, _, _, _, (three_heap w _ _ _).2⟩
  have HX := Lib.hid hX
  clear hr hm br bm ho hX hor
  go_enter Try.func53, Try.ntmps53
  go_wp2_with fail
  refine (HS.out _ hB0).mono ?_
  rintro e w1 ⟨a, pa, b, pb, k1, rfl, na, nb, kk⟩
  go_wp2_with fail
  have hs1 : w.heap.size + 1 + 1 < w1.heap.size := by have := kk.size; simp at this; omega
  have hb2 := below_two w1 (.cells #[.int .i64 a.count, .int .i64 a.total, .int .i64 a.depth, .pointer pa] 29) (.cells #[.int .i64 b.count, .int .i64 b.total, .int .i64 b.depth, .pointer pb] 29)
  obtain ⟨W, hA, hBb, hXm, hRm, hNa, hNb, hbw, hW⟩ : ∃ W : World, W.heap[w1.heap.size]? = some (.cells (rc a.count a.total a.depth pa) 29 (0, 0)) ∧ W.heap[w1.heap.size + 1]? = some (.cells (rc b.count b.total b.depth pb) 29 (0, 0)) ∧
      W.heap[w.heap.size + 1]? = some (.cells (rc m.count m.total m.depth pm) 29 (0, 0)) ∧ Room W (w.heap.size + 1 + 1) ∧ Nd W a pa ∧ Nd W b pb ∧ Below w.heap.size w W ∧ W = (w1.alloc (.cells #[.int .i64 a.count, .int .i64 a.total, .int .i64 a.depth, .pointer pa] 29)).alloc (.cells #[.int .i64 b.count, .int .i64 b.total, .int .i64 b.depth, .pointer pb] 29) :=
    ⟨_, (two_heap w1 _ _).1, (two_heap w1 _ _).2, keep_heap hb2 (keep_heap kk HX.out), (hR.keep kk).keep hb2, na.below hb2, nb.below hb2, (hB0.trans (kk.mono hB0.size)).trans (hb2.mono (Nat.le_trans hB0.size kk.size)), rfl⟩
  rw [← hW]
  have K1 := Lib.hid k1
  have K1a := Lib.hid k1.ba
  have K1b := Lib.hid k1.bb
  have nA := hNa.drew
  have nB := hNb.drew
  have nM := (HM.out.below hbw).drew
  have PO : Hid (Ok (a.list ++ m.list) ∧ Ok ((a.list ++ m.list) ++ b.list)) := Lib.hid (by rw [k1.la, k1.lb]; exact ⟨HO.out.app.1, HO.out⟩)
  clear hW kk hb2 k1 hNa hNb na nb hB0 hR HM HO
  obtain ⟨a0, a1, a2, a3⟩ := rc_cells hA
  obtain ⟨b0, b1, b2, b3⟩ := rc_cells hBb
  obtain ⟨m0, m1, m2, m3⟩ := rc_cells hXm
  obtain ⟨a0', a1', a2', a3'⟩ := rc_cells (w := W.drew) hA
  obtain ⟨b0', b1', b2', b3'⟩ := rc_cells (w := W.drew) hBb
  obtain ⟨m0', m1', m2', m3'⟩ := rc_cells (w := W.drew) hXm
  clear hA hBb hXm
  go_region_held3 (fun U => Below w.heap.size w U ∧ Room U (w.heap.size + 1 + 1) ∧ Nd U a pa ∧ Nd U m pm ∧ Nd U b pb ∧ U.cell? ⟨w1.heap.size, 0, none⟩ = some (.int .i64 a.count) ∧ U.cell? ⟨w1.heap.size, 1, none⟩ = some (.int .i64 a.total) ∧ U.cell? ⟨w1.heap.size, 2, none⟩ = some (.int .i64 a.depth) ∧ U.cell? ⟨w1.heap.size, 3, none⟩ = some (.pointer pa) ∧ U.cell? ⟨w.heap.size + 1, 0, none⟩ = some (.int .i64 m.count) ∧ U.cell? ⟨w.heap.size + 1, 1, none⟩ = some (.int .i64 m.total) ∧ U.cell? ⟨w.heap.size + 1, 2, none⟩ = some (.int .i64 m.depth) ∧ U.cell? ⟨w.heap.size + 1, 3, none⟩ = some (.pointer pm) ∧ U.cell? ⟨w1.heap.size + 1, 0, none⟩ = some (.int .i64 b.count) ∧ U.cell? ⟨w1.heap.size + 1, 1, none⟩ = some (.int .i64 b.total) ∧ U.cell? ⟨w1.heap.size + 1, 2, none⟩ = some (.int .i64 b.depth) ∧ U.cell? ⟨w1.heap.size + 1, 3, none⟩ = some (.pointer pb))
    (first
      | ((with_reducible refine ⟨hbw.drew, hRm.drew, ?_, ?_, ?_, ?_, ?_, ?_, ?_, ?_, ?_, ?_, ?_, ?_, ?_, ?_, ?_⟩) <;> with_reducible assumption)
      | (have hS := ‹Below w.heap.size w _ ∧ Room _ _ ∧ Nd _ a pa ∧ Nd _ m pm ∧ Nd _ b pb ∧ _›; (with_reducible refine ⟨hS.1.trans (kk.mono hS.1.size), hS.2.1.keep kk, hS.2.2.1.below kk, hS.2.2.2.1.below kk, hS.2.2.2.2.1.below kk, ?_, ?_, ?_, ?_, ?_, ?_, ?_, ?_, ?_, ?_, ?_, ?_⟩) <;> exact keep_of kk (by simp only [hS]))
      | (have hS := ‹Below w.heap.size w _ ∧ Room _ _ ∧ Nd _ a pa ∧ Nd _ m pm ∧ Nd _ b pb ∧ _›; (with_reducible refine ⟨below_set4 (g := w.heap.size + 1 + 1) hS.1 ?_, room_same (g := w.heap.size + 1 + 1) hS.2.1, hS.2.2.1.set4 (g := w.heap.size + 1 + 1) hS.2.1, hS.2.2.2.1.set4 (g := w.heap.size + 1 + 1) hS.2.1, hS.2.2.2.2.1.set4 (g := w.heap.size + 1 + 1) hS.2.1, ?_, ?_, ?_, ?_, ?_, ?_, ?_, ?_, ?_, ?_, ?_, ?_⟩) <;> first | omega | exact cell_set4 (by simp <;> omega) (by simp only [hS])))
    (first
      | (go_at_call_of 67 (Value.agg #[.int .i64 m.count, .int .i64 m.total, .int .i64 m.depth, .pointer pm]); ((with_reducible refine (join_any ?_ ?_ K1a.out HB.out PO.out.1).mono ?_)); (exact (‹Below w.heap.size w _ ∧ Room _ _ ∧ Nd _ a pa ∧ Nd _ m pm ∧ Nd _ b pb ∧ _›).2.2.1); (exact (‹Below w.heap.size w _ ∧ Room _ _ ∧ Nd _ a pa ∧ Nd _ m pm ∧ Nd _ b pb ∧ _›).2.2.2.1); rintro e w2 ⟨t2, p2, k2, rfl, n2, kk⟩)
      | (go_at_call_of 67 (Value.pointer p2); ((with_reducible refine (join_any n2 ?_ k2.bal K1b.out ?_).mono ?_)); (exact (‹Below w.heap.size w _ ∧ Room _ _ ∧ Nd _ a pa ∧ Nd _ m pm ∧ Nd _ b pb ∧ _›).2.2.2.2.1); (rw [k2.list]; exact PO.out.2); rintro e w3 ⟨t3, p3, k3, rfl, n3, kk⟩; have hR3 := (‹Below w.heap.size w _ ∧ Room _ _ ∧ _›).2.1.keep kk; obtain ⟨v0, v1, v2, v3, c0, c1, c2, c3, f0, f1, f2, f3⟩ := hR3.open_))
  go_wp2_with fail
  exact bodyPost_ret (res_rope rfl (g := w.heap.size + 1 + 1) rfl (heap_set4 hR3)) rfl (gives_set ⟨by rw [k3.list, k2.list, K1.out.la, K1.out.lb], k3.bal⟩ n3 hR3 (‹Below w.heap.size w _ ∧ _›).1)
end Go.Proofs.Ytdejdnkkbpmmlaa

namespace Go.Proofs.Ytdejdnkkbpmmlaa
open Go.RowKit

/-- what take makes -/
structure Tk (r : T) (i n : Nat) (a b : T) : Prop where
  la : a.list = (r.list.drop i).take n
  lb : b.list = r.list.take i ++ r.list.drop (i + n)
  ba : a.Bal
  bb : b.Bal
theorem tk_ok {r a b c d : T} {i n : Nat} (ho : Ok r.list) (k1 : Sp r i a b) (k2 : Sp b n c d) : Ok (a.list ++ d.list) := by
  rw [k1.la, k2.lb, k1.lb]
  refine ho.sub ?_
  have h := List.take_append_drop i r.list
  exact (((List.Sublist.refl _).append (List.drop_sublist _ _)).trans (by rw [h]; exact List.Sublist.refl _))
theorem tk_of {r a b c d t : T} {i n : Nat} (k1 : Sp r i a b) (k2 : Sp b n c d) (k3 : Jn a d t) : Tk r i n c t :=
  ⟨by rw [k2.la, k1.lb], by rw [k3.list, k1.la, k2.lb, k1.lb, List.drop_drop], k2.ba, k3.bal⟩
set_option maxHeartbeats 4000000 in
theorem take_any {r : T} {i n : Nat} {pr : Option Addr} {w : World} (hi : i + n ≤ r.count) (hr : Nd w r pr) (br : r.Bal) (hor : Ok r.list) :
    Calls Try.prog 59 #[.agg #[.int .i64 r.count, .int .i64 r.total, .int .i64 r.depth, .pointer pr], .int .i64 i, .int .i64 n] w (Two (Tk r i n) w) := by
  have HS : Hid (∀ W, Below w.heap.size w W → Calls Try.prog 66 #[.agg #[.int .i64 r.count, .int .i64 r.total, .int .i64 r.depth, .pointer pr], .int .i64 i] W (Two (Sp r i) W)) := Lib.hid (fun W hW => split_any (by omega) (hr.below hW) br hor)
  have HO := Lib.hid hor
  have HI := Lib.hid hi
  have hB0 := below_three w (.cells #[.int .i64 r.count, .int .i64 r.total, .int .i64 r.depth, .pointer pr] 29) (.cells #[.int .i64 0, .int .i64 0, .int .i64 0, .pointer none] 29) (.cells #[.int .i64 0, .int .i64 0, .int .i64 0, .pointer none] 29)
  have hR1 : Room (((w.alloc (.cells #[.int .i64 r.count, .int .i64 r.total, .int .i64 r.depth, .pointer pr] 29)).alloc (.cells #[.int .i64 0, .int .i64 0, .int .i64 0, .pointer none] 29)).alloc (.cells #[.int .i64 0, .int .i64 0, .int .i64 0, .pointer none] 29)) (w.heap.size + 1) := ⟨_, _, _, _, (three_heap w _ _ _).1⟩
  have hR2 : Room (((w.alloc (.cells #[.int .i64 r.count, .int .i64 r.total, .int .i64 r.depth, .pointer pr] 29)).alloc (.cells #[.int .i64 0, .int .i64 0, .int .i64 0, .pointer none] 29)).alloc (.cells #[.int .i64 0, .int .i64 0, .int .i64 0, .pointer none] 29)) (w.heap.size + 1 + 1) := ⟨_, _, _, _, (three_heap w _ _ _).2⟩
  clear hr br hor hi
  go_enter Try.func59, Try.ntmps59
  go_wp2_with fail
  refine (HS.out _ hB0).mono ?_
  rintro e w1 ⟨a, pa, b, pb, k1, rfl, na, nb, kk⟩
  have hs1 : w.heap.size + 1 + 1 < w1.heap.size := by have := kk.size; simp at this; omega
  have hb2 := below_two w1 (.cells #[.int .i64 a.count, .int .i64 a.total, .int .i64 a.depth, .pointer pa] 29) (.cells #[.int .i64 b.count, .int .i64 b.total, .int .i64 b.depth, .pointer pb] 29)
  have hA := Lib.hid (two_heap w1 (.cells #[.int .i64 a.count, .int .i64 a.total, .int .i64 a.depth, .pointer pa] 29) (.cells #[.int .i64 b.count, .int .i64 b.total, .int .i64 b.depth, .pointer pb] 29)).1
  have hBw := Lib.hid (two_heap w1 (.cells #[.int .i64 a.count, .int .i64 a.total, .int .i64 a.depth, .pointer pa] 29) (.cells #[.int .i64 b.count, .int .i64 b.total, .int .i64 b.depth, .pointer pb] 29)).2
  have R1 := (hR1.keep kk).keep hb2
  have R2 := (hR2.keep kk).keep hb2
  have hbw := (hB0.trans (kk.mono hB0.size)).trans (hb2.mono (Nat.le_trans hB0.size kk.size))
  have NA := Lib.hid (na.below hb2)
  have hbo : Ok b.list := by rw [k1.lb]; exact HO.out.sub (List.drop_sublist _ _)
  have hbc : n ≤ b.count := by rw [← T.len, k1.lb, List.length_drop, T.len]; have := HI.out; omega
  have HC := Lib.hid (split_any hbc (nb.below hb2) k1.bb hbo)
  have K1 := Lib.hid k1
  clear kk k1 na nb hB0 hR1 hR2 hb2 hbo hbc
  go_wp2_with fail
  refine HC.out.mono ?_
  rintro e w2 ⟨c, pc, d, pd, k2, rfl, nc, nd, kk⟩
  have hs2 : w1.heap.size + 1 < w2.heap.size := by have := kk.size; simp at this; omega
  have hA2 := Lib.hid (keep_heap kk hA.out)
  have R9 : Room w2 (w1.heap.size + 1) := ⟨_, _, _, _, keep_heap kk hBw.out⟩
  have R1' := R1.keep kk
  have R2' := R2.keep kk
  have hbw2 := hbw.trans (kk.mono hbw.size)
  have NA2 := Lib.hid (NA.out.below kk)
  have K2 := Lib.hid k2
  have NC := Lib.hid nc
  have ND := Lib.hid nd
  clear kk k2 nc nd R1 R2 hbw NA hA hBw HC
  obtain ⟨v0, v1, v2, v3, f0, f1, f2, f3, f4, f5, f6, f7⟩ := R1'.open_
  obtain ⟨v0', v1', v2', v3', f0', f1', f2', f3', f4', f5', f6', f7'⟩ := R9.open_
  go_wp2_with fail
  obtain ⟨W, h6, h8, h9, hRm6, hRm7, hNa, hNc, hNd, hbw, hW⟩ : ∃ W : World, W.heap[w.heap.size + 1]? = some (.cells (rc c.count c.total c.depth pc) 29 (0, 0)) ∧ W.heap[w1.heap.size]? = some (.cells (rc a.count a.total a.depth pa) 29 (0, 0)) ∧
      W.heap[w1.heap.size + 1]? = some (.cells (rc d.count d.total d.depth pd) 29 (0, 0)) ∧ Room W (w.heap.size + 1) ∧ Room W (w.heap.size + 1 + 1) ∧ Nd W a pa ∧ Nd W c pc ∧ Nd W d pd ∧ Below w.heap.size w W ∧ W = _ :=
    ⟨_, far_set4 (by omega) (heap_set4 R1'), far_set4 (by omega) (far_set4 (by omega) hA2.out), heap_set4 (room_far (by omega) R9), room_far (by omega) (room_same R1'), room_far (by omega) (room_far (by omega) R2'), (NA2.out.set4 R1').set4 (room_far (by omega) R9), (NC.out.set4 R1').set4 (room_far (by omega) R9), (ND.out.set4 R1').set4 (room_far (by omega) R9), below_set4 (below_set4 hbw2 (by omega)) (by omega), rfl⟩
  rw [← hW]
  have K1a := Lib.hid K1.out.ba
  have K2b := Lib.hid K2.out.bb
  have JO := Lib.hid (tk_ok HO.out K1.out K2.out)
  have nA := hNa.drew
  have nC := hNc.drew
  have nD := hNd.drew
  clear hW hNa hNc hNd f0 f1 f2 f3 f4 f5 f6 f7 f0' f1' f2' f3' f4' f5' f6' f7' R1' R2' R9 hbw2 NA2 NC ND hA2
  obtain ⟨a0, a1, a2, a3⟩ := rc_cells h6
  obtain ⟨b0, b1, b2, b3⟩ := rc_cells h8
  obtain ⟨m0, m1, m2, m3⟩ := rc_cells h9
  obtain ⟨a0', a1', a2', a3'⟩ := rc_cells (w := W.drew) h6
  obtain ⟨b0', b1', b2', b3'⟩ := rc_cells (w := W.drew) h8
  obtain ⟨m0', m1', m2', m3'⟩ := rc_cells (w := W.drew) h9
  clear h6 h8 h9
  go_region_held3 (fun U => Below w.heap.size w U ∧ Room U (w.heap.size + 1) ∧ Room U (w.heap.size + 1 + 1) ∧ Nd U a pa ∧ Nd U c pc ∧ Nd U d pd ∧ U.cell? ⟨w.heap.size + 1, 0, none⟩ = some (.int .i64 c.count) ∧ U.cell? ⟨w.heap.size + 1, 1, none⟩ = some (.int .i64 c.total) ∧ U.cell? ⟨w.heap.size + 1, 2, none⟩ = some (.int .i64 c.depth) ∧ U.cell? ⟨w.heap.size + 1, 3, none⟩ = some (.pointer pc) ∧ U.cell? ⟨w1.heap.size, 0, none⟩ = some (.int .i64 a.count) ∧ U.cell? ⟨w1.heap.size, 1, none⟩ = some (.int .i64 a.total) ∧ U.cell? ⟨w1.heap.size, 2, none⟩ = some (.int .i64 a.depth) ∧ U.cell? ⟨w1.heap.size, 3, none⟩ = some (.pointer pa) ∧ U.cell? ⟨w1.heap.size + 1, 0, none⟩ = some (.int .i64 d.count) ∧ U.cell? ⟨w1.heap.size + 1, 1, none⟩ = some (.int .i64 d.total) ∧ U.cell? ⟨w1.heap.size + 1, 2, none⟩ = some (.int .i64 d.depth) ∧ U.cell? ⟨w1.heap.size + 1, 3, none⟩ = some (.pointer pd))
    (first
      | ((with_reducible refine ⟨hbw.drew, hRm6.drew, hRm7.drew, ?_, ?_, ?_, ?_, ?_, ?_, ?_, ?_, ?_, ?_, ?_, ?_, ?_, ?_, ?_⟩) <;> with_reducible assumption)
      | (have hS := ‹Below w.heap.size w _ ∧ Room _ _ ∧ Room _ _ ∧ Nd _ a pa ∧ Nd _ c pc ∧ Nd _ d pd ∧ _›; (with_reducible refine ⟨hS.1.trans (kk.mono hS.1.size), hS.2.1.keep kk, hS.2.2.1.keep kk, hS.2.2.2.1.below kk, hS.2.2.2.2.1.below kk, hS.2.2.2.2.2.1.below kk, ?_, ?_, ?_, ?_, ?_, ?_, ?_, ?_, ?_, ?_, ?_, ?_⟩) <;> exact keep_of kk (by simp only [hS]))
      | (have hS := ‹Below w.heap.size w _ ∧ Room _ _ ∧ Room _ _ ∧ Nd _ a pa ∧ Nd _ c pc ∧ Nd _ d pd ∧ _›; (with_reducible refine ⟨below_set4 (g := w.heap.size + 1) hS.1 ?_, room_same (g := w.heap.size + 1) hS.2.1, room_far (g := w.heap.size + 1) ?_ hS.2.2.1, hS.2.2.2.1.set4 (g := w.heap.size + 1) hS.2.1, hS.2.2.2.2.1.set4 (g := w.heap.size + 1) hS.2.1, hS.2.2.2.2.2.1.set4 (g := w.heap.size + 1) hS.2.1, ?_, ?_, ?_, ?_, ?_, ?_, ?_, ?_, ?_, ?_, ?_, ?_⟩) <;> first | omega | with_reducible exact set4_own hS.2.1 0 _ rfl | with_reducible exact set4_own hS.2.1 1 _ rfl | with_reducible exact set4_own hS.2.1 2 _ rfl | with_reducible exact set4_own hS.2.1 3 _ rfl | exact cell_set4 (by simp <;> omega) (by simp only [hS]))
      | (have hS := ‹Below w.heap.size w _ ∧ Room _ _ ∧ Room _ _ ∧ Nd _ a pa ∧ Nd _ c pc ∧ Nd _ d pd ∧ _›; (with_reducible refine ⟨below_set4 (g := w.heap.size + 1 + 1) hS.1 ?_, room_far (g := w.heap.size + 1 + 1) ?_ hS.2.1, room_same (g := w.heap.size + 1 + 1) hS.2.2.1, hS.2.2.2.1.set4 (g := w.heap.size + 1 + 1) hS.2.2.1, hS.2.2.2.2.1.set4 (g := w.heap.size + 1 + 1) hS.2.2.1, hS.2.2.2.2.2.1.set4 (g := w.heap.size + 1 + 1) hS.2.2.1, ?_, ?_, ?_, ?_, ?_, ?_, ?_, ?_, ?_, ?_, ?_, ?_⟩) <;> first | omega | exact cell_set4 (by simp <;> omega) (by simp only [hS])))
    (first
      | (go_at_call 67; ((with_reducible refine (join_any ?_ ?_ K1a.out K2b.out JO.out).mono ?_)); (exact (‹Below w.heap.size w _ ∧ Room _ _ ∧ Room _ _ ∧ Nd _ a pa ∧ Nd _ c pc ∧ Nd _ d pd ∧ _›).2.2.2.1); (exact (‹Below w.heap.size w _ ∧ Room _ _ ∧ Room _ _ ∧ Nd _ a pa ∧ Nd _ c pc ∧ Nd _ d pd ∧ _›).2.2.2.2.2.1); rintro e w3 ⟨t3, p3, k3, rfl, n3, kk⟩; have hS := ‹Below w.heap.size w _ ∧ Room _ _ ∧ Room _ _ ∧ Nd _ a pa ∧ Nd _ c pc ∧ Nd _ d pd ∧ _›; have R6 := hS.2.1.keep kk; have R7 := hS.2.2.1.keep kk; have nC3 := hS.2.2.2.2.1.below kk; have hb3 := hS.1.trans (kk.mono hS.1.size); clear hS; obtain ⟨v0, v1, v2, v3, f0, f1, f2, f3, f4, f5, f6, f7⟩ := R6.open_; obtain ⟨v0', v1', v2', v3', f0', f1', f2', f3', f4', f5', f6', f7'⟩ := R7.open_))
  all_goals
    go_wp2_with fail
    have hw := two_set (a := c) (b := t3) (pa := pc) (pb := p3) (by omega) R6 R7 nC3 n3 hb3 (show w.heap.size ≤ w.heap.size + 1 by omega) (show w.heap.size ≤ w.heap.size + 1 + 1 by omega)
    exact bodyPost_ret (res_ropes rfl (g := w.heap.size + 1) (k := w.heap.size + 1 + 1) rfl rfl hw.xa hw.xb) rfl (two_end (tk_of K1.out K2.out k3) hw)
end Go.Proofs.Ytdejdnkkbpmmlaa

namespace Go.Proofs.Ytdejdnkkbpmmlaa
open Go.RowKit

/-- what with makes -/
structure Wi (t : T) (i : Nat) (s : Int) (u : T) : Prop where
  list : u.list = t.list.set i s
  bal : u.Bal
  dep : u.depth = t.depth
theorem wi_left {l r u : T} {x s : Int} {i : Nat} (hb : (T.node l x r).Bal) (hi : i < l.count) (h : Wi l i s u) : Wi (T.node l x r) i s (T.node u x r) := by
  obtain ⟨b1, b2, b3, b4⟩ := hb
  have hd := h.dep
  refine ⟨?_, ⟨h.bal, b2, by omega, by omega⟩, by simp only [T.depth]; omega⟩
  rw [T.list, T.list, h.list, List.set_append_left _ _ (by rw [T.len]; exact hi)]
theorem wi_right {l r u : T} {x s : Int} {i : Nat} (hb : (T.node l x r).Bal) (hi : l.count < i) (h : Wi r (i - l.count - 1) s u) : Wi (T.node l x r) i s (T.node l x u) := by
  obtain ⟨b1, b2, b3, b4⟩ := hb
  have hd := h.dep
  refine ⟨?_, ⟨b1, h.bal, by omega, by omega⟩, by simp only [T.depth]; omega⟩
  rw [T.list, T.list, h.list, List.set_append_right _ _ (by rw [T.len]; omega), T.len, show i - l.count = (i - l.count - 1) + 1 by omega, List.set_cons_succ, show i - l.count - 1 + 1 - 1 = i - l.count - 1 by omega]
theorem wi_here {l r : T} {x s : Int} (hb : (T.node l x r).Bal) : Wi (T.node l x r) l.count s (T.node l s r) := by
  refine ⟨?_, hb, rfl⟩
  rw [T.list, T.list, List.set_append_right _ _ (by rw [T.len]; omega), T.len, Nat.sub_self, List.set_cons_zero]

/-- the contract of with for one tree -/
def WithAt (s : Int) (t : T) : Prop := ∀ {i : Nat} {p : Option Addr} {w : World}, i < t.count → Nd w t p → t.Bal → Ok (t.list.set i s) → Calls Try.prog 63 #[.agg #[.int .i64 t.count, .int .i64 t.total, .int .i64 t.depth, .pointer p], .int .i64 i, .int .i64 s] w (Gives (Wi t i s) w)

set_option maxHeartbeats 2000000 in
theorem with_left {l r : T} {x s : Int} (hw : WithAt s l) {i : Nat} {p : Option Addr} {w : World} (hi : i < l.count) (hn : Nd w (T.node l x r) p) (hb : (T.node l x r).Bal) (ho : Ok ((T.node l x r).list.set i s)) :
    Calls Try.prog 63 #[.agg #[.int .i64 (T.node l x r).count, .int .i64 (T.node l x r).total, .int .i64 (T.node l x r).depth, .pointer p], .int .i64 i, .int .i64 s] w (Gives (Wi (T.node l x r) i s) w) := by
  have hc : (T.node l x r).count ≤ 4096 := by have := ho.len; rwa [List.length_set, T.len] at this
  simp only [T.count] at hc
  have PW : Hid (∀ u, Wi l i s u → Ok (T.node u x r).list) := Lib.hid (fun u h => by rw [(wi_left hb hi h).list]; exact ho)
  have LW : Hid (∀ u, Wi l i s u → Wi (T.node l x r) i s (T.node u x r)) := Lib.hid (fun u h => wi_left hb hi h)
  have hol : Ok (l.list.set i s) := by
    have h := ho
    rw [T.list, List.set_append_left _ _ (by rw [T.len]; exact hi)] at h
    exact h.app.1
  obtain ⟨g, pl, pr, rfl, hn, hl, hr⟩ := hn
  have kg := heap_lt hn
  have hB0 : Below w.heap.size w ((w.alloc (.cells #[.int .i64 (T.node l x r).count, .int .i64 (T.node l x r).total, .int .i64 (T.node l x r).depth, .pointer (some ⟨g, 0, none⟩)] 29)).alloc (.cells #[.int .i64 0, .int .i64 0, .int .i64 0, .pointer none] 29)) := below_two w _ _
  have hR0 : Room ((w.alloc (.cells #[.int .i64 (T.node l x r).count, .int .i64 (T.node l x r).total, .int .i64 (T.node l x r).depth, .pointer (some ⟨g, 0, none⟩)] 29)).alloc (.cells #[.int .i64 0, .int .i64 0, .int .i64 0, .pointer none] 29)) (w.heap.size + 1) := ⟨_, _, _, _, (two_heap w _ _).2⟩
  obtain ⟨i0, i1, i2, i3, i4, i5, i6, i7, i8⟩ := nd_cells (keep_heap hB0 hn)
  obtain ⟨j0, j1, j2, j3, j4, j5, j6, j7, j8⟩ := nd_cells (keep_heap hB0.drew hn)
  have HI : Hid (∀ W, Below w.heap.size w W → Calls Try.prog 63 #[.agg #[.int .i64 l.count, .int .i64 l.total, .int .i64 l.depth, .pointer pl], .int .i64 i, .int .i64 s] W (Gives (Wi l i s) W)) := Lib.hid (fun W hW => hw hi (hl.below hW) hb.1 hol)
  have HR := Lib.hid hr
  clear hn hl hr hb ho hol hw
  go_enter Try.func63, Try.ntmps63
  go_wp2_with fail
  go_region_held3 (fun U => Below w.heap.size w U ∧ Room U (w.heap.size + 1) ∧ U.cell? ⟨g, 0, none⟩ = some (.int .i64 l.count) ∧ U.cell? ⟨g, 1, none⟩ = some (.int .i64 l.total) ∧ U.cell? ⟨g, 2, none⟩ = some (.int .i64 l.depth) ∧ U.cell? ⟨g, 3, none⟩ = some (.pointer pl) ∧ U.cell? ⟨g, 4, none⟩ = some (.int .i64 x) ∧ U.cell? ⟨g, 5, none⟩ = some (.int .i64 r.count) ∧ U.cell? ⟨g, 6, none⟩ = some (.int .i64 r.total) ∧ U.cell? ⟨g, 7, none⟩ = some (.int .i64 r.depth) ∧ U.cell? ⟨g, 8, none⟩ = some (.pointer pr))
    (first
      | ((with_reducible refine ⟨hB0.drew, hR0.drew, ?_, ?_, ?_, ?_, ?_, ?_, ?_, ?_, ?_⟩) <;> with_reducible assumption)
      | (have hS := ‹Below w.heap.size w _ ∧ Room _ _ ∧ _›; (with_reducible refine ⟨hS.1.trans (kk.mono hS.1.size), hS.2.1.keep kk, ?_, ?_, ?_, ?_, ?_, ?_, ?_, ?_, ?_⟩) <;> exact keep_of kk (by simp only [hS]))
      | (have hS := ‹Below w.heap.size w _ ∧ Room _ _ ∧ _›; (with_reducible refine ⟨below_set4 (g := w.heap.size + 1) hS.1 ?_, room_same (g := w.heap.size + 1) hS.2.1, ?_, ?_, ?_, ?_, ?_, ?_, ?_, ?_, ?_⟩) <;> first | omega | exact cell_set4 (by simp <;> omega) (by simp only [hS])))
    (first
      | (go_at_call 63; ((with_reducible refine (HI.out _ ?_).mono ?_)); (exact (‹Below w.heap.size w _ ∧ _›).1); rintro e w2 ⟨t2, p2, k2, rfl, n2, kk⟩)
      | (go_at_call 71; ((with_reducible refine (build_any n2 ?_ (PW.out _ k2)).mono ?_)); (exact HR.out.below (‹Below w.heap.size w _ ∧ _›).1); rintro e w3 ⟨_, p3, rfl, rfl, n3, kk⟩; have hR3 := (‹Below w.heap.size w _ ∧ Room _ _ ∧ _›).2.1.keep kk; obtain ⟨v0, v1, v2, v3, c0, c1, c2, c3, f0, f1, f2, f3⟩ := hR3.open_))
  go_wp2_with fail
  exact bodyPost_ret (res_rope rfl (g := w.heap.size + 1) rfl (heap_set4 hR3)) rfl (gives_set (LW.out t2 k2) n3 hR3 (‹Below w.heap.size w _ ∧ _›).1)

set_option maxHeartbeats 2000000 in
theorem with_right {l r : T} {x s : Int} (hw : WithAt s r) {i : Nat} {p : Option Addr} {w : World} (hi : l.count < i) (hi2 : i < (T.node l x r).count) (hn : Nd w (T.node l x r) p) (hb : (T.node l x r).Bal) (ho : Ok ((T.node l x r).list.set i s)) :
    Calls Try.prog 63 #[.agg #[.int .i64 (T.node l x r).count, .int .i64 (T.node l x r).total, .int .i64 (T.node l x r).depth, .pointer p], .int .i64 i, .int .i64 s] w (Gives (Wi (T.node l x r) i s) w) := by
  have hc : (T.node l x r).count ≤ 4096 := by have := ho.len; rwa [List.length_set, T.len] at this
  simp only [T.count] at hc
  have PW : Hid (∀ u, Wi r (i - l.count - 1) s u → Ok (T.node l x u).list) := Lib.hid (fun u h => by rw [(wi_right hb hi h).list]; exact ho)
  have LW : Hid (∀ u, Wi r (i - l.count - 1) s u → Wi (T.node l x r) i s (T.node l x u)) := Lib.hid (fun u h => wi_right hb hi h)
  have hor : Ok (r.list.set (i - l.count - 1) s) := by
    have h := ho
    rw [T.list, List.set_append_right _ _ (by rw [T.len]; omega), T.len, show i - l.count = (i - l.count - 1) + 1 by omega, List.set_cons_succ] at h
    exact h.app.2.sub (List.sublist_cons_self _ _)
  have hi3 := hi2
  simp only [T.count] at hi3
  have s1 : IntKind.i64.wrap ((i : Int) - (l.count : Int)) = (i : Int) - (l.count : Int) := IntWalk.i64_in _ (by omega)
  have s2 : IntKind.i64.wrap ((i : Int) - (l.count : Int) - 1) = (i : Int) - (l.count : Int) - 1 := IntWalk.i64_in _ (by omega)
  obtain ⟨g, pl, pr, rfl, hn, hl, hr⟩ := hn
  have kg := heap_lt hn
  have hB0 : Below w.heap.size w ((w.alloc (.cells #[.int .i64 (T.node l x r).count, .int .i64 (T.node l x r).total, .int .i64 (T.node l x r).depth, .pointer (some ⟨g, 0, none⟩)] 29)).alloc (.cells #[.int .i64 0, .int .i64 0, .int .i64 0, .pointer none] 29)) := below_two w _ _
  have hR0 : Room ((w.alloc (.cells #[.int .i64 (T.node l x r).count, .int .i64 (T.node l x r).total, .int .i64 (T.node l x r).depth, .pointer (some ⟨g, 0, none⟩)] 29)).alloc (.cells #[.int .i64 0, .int .i64 0, .int .i64 0, .pointer none] 29)) (w.heap.size + 1) := ⟨_, _, _, _, (two_heap w _ _).2⟩
  obtain ⟨i0, i1, i2, i3, i4, i5, i6, i7, i8⟩ := nd_cells (keep_heap hB0 hn)
  obtain ⟨j0, j1, j2, j3, j4, j5, j6, j7, j8⟩ := nd_cells (keep_heap hB0.drew hn)
  have HI : Hid (∀ W, Below w.heap.size w W → Calls Try.prog 63 #[.agg #[.int .i64 r.count, .int .i64 r.total, .int .i64 r.depth, .pointer pr], .int .i64 ((i : Int) - (l.count : Int) - 1), .int .i64 s] W (Gives (Wi r (i - l.count - 1) s) W)) := Lib.hid (fun W hW => by
    rw [show (i : Int) - (l.count : Int) - 1 = ((i - l.count - 1 : Nat) : Int) by omega]
    exact hw (by omega) (hr.below hW) hb.2.1 hor)
  have HL := Lib.hid hl
  have e9 : decide (i < l.count) = false := by simp; omega
  have hi4 : (i : Int) ≤ 4096 := by omega
  have hi5 : (l.count : Int) ≤ 4096 := by omega
  clear hn hl hr hb ho hor hw hi2 hi3
  go_enter Try.func63, Try.ntmps63
  go_wp2_with fail
  go_region_held3 (fun U => Below w.heap.size w U ∧ Room U (w.heap.size + 1) ∧ U.cell? ⟨g, 0, none⟩ = some (.int .i64 l.count) ∧ U.cell? ⟨g, 1, none⟩ = some (.int .i64 l.total) ∧ U.cell? ⟨g, 2, none⟩ = some (.int .i64 l.depth) ∧ U.cell? ⟨g, 3, none⟩ = some (.pointer pl) ∧ U.cell? ⟨g, 4, none⟩ = some (.int .i64 x) ∧ U.cell? ⟨g, 5, none⟩ = some (.int .i64 r.count) ∧ U.cell? ⟨g, 6, none⟩ = some (.int .i64 r.total) ∧ U.cell? ⟨g, 7, none⟩ = some (.int .i64 r.depth) ∧ U.cell? ⟨g, 8, none⟩ = some (.pointer pr))
    (first
      | ((with_reducible refine ⟨hB0.drew, hR0.drew, ?_, ?_, ?_, ?_, ?_, ?_, ?_, ?_, ?_⟩) <;> with_reducible assumption)
      | (have hS := ‹Below w.heap.size w _ ∧ Room _ _ ∧ _›; (with_reducible refine ⟨hS.1.trans (kk.mono hS.1.size), hS.2.1.keep kk, ?_, ?_, ?_, ?_, ?_, ?_, ?_, ?_, ?_⟩) <;> exact keep_of kk (by simp only [hS]))
      | (have hS := ‹Below w.heap.size w _ ∧ Room _ _ ∧ _›; (with_reducible refine ⟨below_set4 (g := w.heap.size + 1) hS.1 ?_, room_same (g := w.heap.size + 1) hS.2.1, ?_, ?_, ?_, ?_, ?_, ?_, ?_, ?_, ?_⟩) <;> first | omega | exact cell_set4 (by simp <;> omega) (by simp only [hS])))
    (first
      | (go_at_call 63; ((with_reducible refine (HI.out _ ?_).mono ?_)); (exact (‹Below w.heap.size w _ ∧ _›).1); rintro e w2 ⟨t2, p2, k2, rfl, n2, kk⟩)
      | (go_at_call 71; ((with_reducible refine (build_any ?_ n2 (PW.out _ k2)).mono ?_)); (exact HL.out.below (‹Below w.heap.size w _ ∧ _›).1); rintro e w3 ⟨_, p3, rfl, rfl, n3, kk⟩; have hR3 := (‹Below w.heap.size w _ ∧ Room _ _ ∧ _›).2.1.keep kk; obtain ⟨v0, v1, v2, v3, c0, c1, c2, c3, f0, f1, f2, f3⟩ := hR3.open_))
  go_wp2_with fail
  exact bodyPost_ret (res_rope rfl (g := w.heap.size + 1) rfl (heap_set4 hR3)) rfl (gives_set (LW.out t2 k2) n3 hR3 (‹Below w.heap.size w _ ∧ _›).1)

set_option maxHeartbeats 2000000 in
theorem with_here {l r : T} {x s : Int} {i : Nat} {p : Option Addr} {w : World} (hi : l.count = i) (hn : Nd w (T.node l x r) p) (hb : (T.node l x r).Bal) (ho : Ok ((T.node l x r).list.set i s)) :
    Calls Try.prog 63 #[.agg #[.int .i64 (T.node l x r).count, .int .i64 (T.node l x r).total, .int .i64 (T.node l x r).depth, .pointer p], .int .i64 i, .int .i64 s] w (Gives (Wi (T.node l x r) i s) w) := by
  have hc : (T.node l x r).count ≤ 4096 := by have := ho.len; rwa [List.length_set, T.len] at this
  simp only [T.count] at hc
  have PW : Hid (Ok (T.node l s r).list) := Lib.hid (by rw [(wi_here (s := s) hb).list, hi]; exact ho)
  have LW : Hid (Wi (T.node l x r) i s (T.node l s r)) := Lib.hid (hi ▸ wi_here hb)
  obtain ⟨g, pl, pr, rfl, hn, hl, hr⟩ := hn
  have kg := heap_lt hn
  have hB0 : Below w.heap.size w ((w.alloc (.cells #[.int .i64 (T.node l x r).count, .int .i64 (T.node l x r).total, .int .i64 (T.node l x r).depth, .pointer (some ⟨g, 0, none⟩)] 29)).alloc (.cells #[.int .i64 0, .int .i64 0, .int .i64 0, .pointer none] 29)) := below_two w _ _
  have hR0 : Room ((w.alloc (.cells #[.int .i64 (T.node l x r).count, .int .i64 (T.node l x r).total, .int .i64 (T.node l x r).depth, .pointer (some ⟨g, 0, none⟩)] 29)).alloc (.cells #[.int .i64 0, .int .i64 0, .int .i64 0, .pointer none] 29)) (w.heap.size + 1) := ⟨_, _, _, _, (two_heap w _ _).2⟩
  obtain ⟨i0, i1, i2, i3, i4, i5, i6, i7, i8⟩ := nd_cells (keep_heap hB0 hn)
  obtain ⟨j0, j1, j2, j3, j4, j5, j6, j7, j8⟩ := nd_cells (keep_heap hB0.drew hn)
  have HL := Lib.hid hl
  have HR := Lib.hid hr
  subst hi
  clear hn hl hr hb ho
  go_enter Try.func63, Try.ntmps63
  go_wp2_with fail
  go_region_held3 (fun U => Below w.heap.size w U ∧ Room U (w.heap.size + 1) ∧ U.cell? ⟨g, 0, none⟩ = some (.int .i64 l.count) ∧ U.cell? ⟨g, 1, none⟩ = some (.int .i64 l.total) ∧ U.cell? ⟨g, 2, none⟩ = some (.int .i64 l.depth) ∧ U.cell? ⟨g, 3, none⟩ = some (.pointer pl) ∧ U.cell? ⟨g, 4, none⟩ = some (.int .i64 x) ∧ U.cell? ⟨g, 5, none⟩ = some (.int .i64 r.count) ∧ U.cell? ⟨g, 6, none⟩ = some (.int .i64 r.total) ∧ U.cell? ⟨g, 7, none⟩ = some (.int .i64 r.depth) ∧ U.cell? ⟨g, 8, none⟩ = some (.pointer pr))
    (first
      | ((with_reducible refine ⟨hB0.drew, hR0.drew, ?_, ?_, ?_, ?_, ?_, ?_, ?_, ?_, ?_⟩) <;> with_reducible assumption)
      | (have hS := ‹Below w.heap.size w _ ∧ Room _ _ ∧ _›; (with_reducible refine ⟨hS.1.trans (kk.mono hS.1.size), hS.2.1.keep kk, ?_, ?_, ?_, ?_, ?_, ?_, ?_, ?_, ?_⟩) <;> exact keep_of kk (by simp only [hS]))
      | (have hS := ‹Below w.heap.size w _ ∧ Room _ _ ∧ _›; (with_reducible refine ⟨below_set4 (g := w.heap.size + 1) hS.1 ?_, room_same (g := w.heap.size + 1) hS.2.1, ?_, ?_, ?_, ?_, ?_, ?_, ?_, ?_, ?_⟩) <;> first | omega | exact cell_set4 (by simp <;> omega) (by simp only [hS])))
    (first
      | (go_at_call 71; ((with_reducible refine (build_any ?_ ?_ PW.out).mono ?_)); (exact HL.out.below (‹Below w.heap.size w _ ∧ _›).1); (exact HR.out.below (‹Below w.heap.size w _ ∧ _›).1); rintro e w3 ⟨_, p3, rfl, rfl, n3, kk⟩; have hR3 := (‹Below w.heap.size w _ ∧ Room _ _ ∧ _›).2.1.keep kk; obtain ⟨v0, v1, v2, v3, c0, c1, c2, c3, f0, f1, f2, f3⟩ := hR3.open_))
  go_wp2_with fail
  exact bodyPost_ret (res_rope rfl (g := w.heap.size + 1) rfl (heap_set4 hR3)) rfl (gives_set (LW.out) n3 hR3 (‹Below w.heap.size w _ ∧ _›).1)

theorem with_at (s : Int) (t : T) : WithAt s t := by
  induction t with
  | nil => intro i p w hi hn hb ho; simp [T.count] at hi
  | node l x r hl hr =>
    intro i p w hi hn hb ho
    rcases Nat.lt_trichotomy i l.count with h | h | h
    · exact with_left hl h hn hb ho
    · exact with_here h.symm hn hb ho
    · exact with_right hr h hi hn hb ho
end Go.Proofs.Ytdejdnkkbpmmlaa
