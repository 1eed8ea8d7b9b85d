/- The walk of take. -/
import Derived.Test.YtfkjnepafgehiaaJoinW
namespace Go.Proofs.Ytfkjnepafgehiaa
open Go.RowKit

/-- what take makes -/
structure Tk (r : T) (i n : Nat) (a b : T) : Prop where
  la : a.list = (r.list.drop i).take n
  lb : b.list = r.list.take i ++ r.list.drop (i + n)
  ba : a.Bal
  bb : b.Bal
theorem tk_ok {r a b c d : T} {i n : Nat} (ho : Ok r.list) (k1 : Sp r i a b) (k2 : Sp b n c d) : Ok (a.list ++ d.list) := by
  rw [k1.la, k2.lb, k1.lb]
  refine ho.sub ?_
  have h := List.take_append_drop i r.list
  exact (((List.Sublist.refl _).append (List.drop_sublist _ _)).trans (by rw [h]; exact List.Sublist.refl _))
theorem tk_of {r a b c d t : T} {i n : Nat} (k1 : Sp r i a b) (k2 : Sp b n c d) (k3 : Jn a d t) : Tk r i n c t :=
  ⟨by rw [k2.la, k1.lb], by rw [k3.list, k1.la, k2.lb, k1.lb, List.drop_drop], k2.ba, k3.bal⟩
set_option maxHeartbeats 4000000 in
theorem take_any {r : T} {i n : Nat} {pr : Option Addr} {w : World} (hi : i + n ≤ r.count) (hr : Nd w r pr) (br : r.Bal) (hor : Ok r.list) :
    Calls Try.prog 51 #[.agg #[.int .i64 r.count, .int .i64 r.total, .int .i64 r.depth, .pointer pr], .int .i64 i, .int .i64 n] w (Two (Tk r i n) w) := by
  have HS : Hid (∀ W, Below w.heap.size w W → Calls Try.prog 47 #[.agg #[.int .i64 r.count, .int .i64 r.total, .int .i64 r.depth, .pointer pr], .int .i64 i] W (Two (Sp r i) W)) := Lib.hid (fun W hW => split_any (by omega) (hr.below hW) br hor)
  have HO := Lib.hid hor
  have HI := Lib.hid hi
  have hB0 := below_three w (.cells #[.int .i64 r.count, .int .i64 r.total, .int .i64 r.depth, .pointer pr] 27) (.cells #[.int .i64 0, .int .i64 0, .int .i64 0, .pointer none] 27) (.cells #[.int .i64 0, .int .i64 0, .int .i64 0, .pointer none] 27)
  have hR1 : Room (((w.alloc (.cells #[.int .i64 r.count, .int .i64 r.total, .int .i64 r.depth, .pointer pr] 27)).alloc (.cells #[.int .i64 0, .int .i64 0, .int .i64 0, .pointer none] 27)).alloc (.cells #[.int .i64 0, .int .i64 0, .int .i64 0, .pointer none] 27)) (w.heap.size + 1) := ⟨_, _, _, _, (three_heap w _ _ _).1⟩
  have hR2 : Room (((w.alloc (.cells #[.int .i64 r.count, .int .i64 r.total, .int .i64 r.depth, .pointer pr] 27)).alloc (.cells #[.int .i64 0, .int .i64 0, .int .i64 0, .pointer none] 27)).alloc (.cells #[.int .i64 0, .int .i64 0, .int .i64 0, .pointer none] 27)) (w.heap.size + 1 + 1) := ⟨_, _, _, _, (three_heap w _ _ _).2⟩
  clear hr br hor hi
  go_enter Try.func51, Try.ntmps51
  go_wp2_with fail
  refine (HS.out _ hB0).mono ?_
  rintro e w1 ⟨a, pa, b, pb, k1, rfl, na, nb, kk⟩
  have hs1 : w.heap.size + 1 + 1 < w1.heap.size := by have := kk.size; simp at this; omega
  have hb2 := below_two w1 (.cells #[.int .i64 a.count, .int .i64 a.total, .int .i64 a.depth, .pointer pa] 27) (.cells #[.int .i64 b.count, .int .i64 b.total, .int .i64 b.depth, .pointer pb] 27)
  have hA := Lib.hid (two_heap w1 (.cells #[.int .i64 a.count, .int .i64 a.total, .int .i64 a.depth, .pointer pa] 27) (.cells #[.int .i64 b.count, .int .i64 b.total, .int .i64 b.depth, .pointer pb] 27)).1
  have hBw := Lib.hid (two_heap w1 (.cells #[.int .i64 a.count, .int .i64 a.total, .int .i64 a.depth, .pointer pa] 27) (.cells #[.int .i64 b.count, .int .i64 b.total, .int .i64 b.depth, .pointer pb] 27)).2
  have R1 := (hR1.keep kk).keep hb2
  have R2 := (hR2.keep kk).keep hb2
  have hbw := (hB0.trans (kk.mono hB0.size)).trans (hb2.mono (Nat.le_trans hB0.size kk.size))
  have NA := Lib.hid (na.below hb2)
  have hbo : Ok b.list := by rw [k1.lb]; exact HO.out.sub (List.drop_sublist _ _)
  have hbc : n ≤ b.count := by rw [← T.len, k1.lb, List.length_drop, T.len]; have := HI.out; omega
  have HC := Lib.hid (split_any hbc (nb.below hb2) k1.bb hbo)
  have K1 := Lib.hid k1
  clear kk k1 na nb hB0 hR1 hR2 hb2 hbo hbc
  go_wp2_with fail
  refine HC.out.mono ?_
  rintro e w2 ⟨c, pc, d, pd, k2, rfl, nc, nd, kk⟩
  have hs2 : w1.heap.size + 1 < w2.heap.size := by have := kk.size; simp at this; omega
  have hA2 := Lib.hid (keep_heap kk hA.out)
  have R9 : Room w2 (w1.heap.size + 1) := ⟨_, _, _, _, keep_heap kk hBw.out⟩
  have R1' := R1.keep kk
  have R2' := R2.keep kk
  have hbw2 := hbw.trans (kk.mono hbw.size)
  have NA2 := Lib.hid (NA.out.below kk)
  have K2 := Lib.hid k2
  have NC := Lib.hid nc
  have ND := Lib.hid nd
  clear kk k2 nc nd R1 R2 hbw NA hA hBw HC
  obtain ⟨v0, v1, v2, v3, f0, f1, f2, f3, f4, f5, f6, f7⟩ := R1'.open_
  obtain ⟨v0', v1', v2', v3', f0', f1', f2', f3', f4', f5', f6', f7'⟩ := R9.open_
  go_wp2_with fail
  obtain ⟨W, h6, h8, h9, hRm6, hRm7, hNa, hNc, hNd, hbw, hW⟩ : ∃ W : World, W.heap[w.heap.size + 1]? = some (.cells (rc c.count c.total c.depth pc) 27 (0, 0)) ∧ W.heap[w1.heap.size]? = some (.cells (rc a.count a.total a.depth pa) 27 (0, 0)) ∧
      W.heap[w1.heap.size + 1]? = some (.cells (rc d.count d.total d.depth pd) 27 (0, 0)) ∧ Room W (w.heap.size + 1) ∧ Room W (w.heap.size + 1 + 1) ∧ Nd W a pa ∧ Nd W c pc ∧ Nd W d pd ∧ Below w.heap.size w W ∧ W = _ :=
    ⟨_, far_set4 (by omega) (heap_set4 R1'), far_set4 (by omega) (far_set4 (by omega) hA2.out), heap_set4 (room_far (by omega) R9), room_far (by omega) (room_same R1'), room_far (by omega) (room_far (by omega) R2'), (NA2.out.set4 R1').set4 (room_far (by omega) R9), (NC.out.set4 R1').set4 (room_far (by omega) R9), (ND.out.set4 R1').set4 (room_far (by omega) R9), below_set4 (below_set4 hbw2 (by omega)) (by omega), rfl⟩
  rw [← hW]
  have K1a := Lib.hid K1.out.ba
  have K2b := Lib.hid K2.out.bb
  have JO := Lib.hid (tk_ok HO.out K1.out K2.out)
  have nA := hNa.drew
  have nC := hNc.drew
  have nD := hNd.drew
  clear hW hNa hNc hNd f0 f1 f2 f3 f4 f5 f6 f7 f0' f1' f2' f3' f4' f5' f6' f7' R1' R2' R9 hbw2 NA2 NC ND hA2
  obtain ⟨a0, a1, a2, a3⟩ := rc_cells h6
  obtain ⟨b0, b1, b2, b3⟩ := rc_cells h8
  obtain ⟨m0, m1, m2, m3⟩ := rc_cells h9
  obtain ⟨a0', a1', a2', a3'⟩ := rc_cells (w := W.drew) h6
  obtain ⟨b0', b1', b2', b3'⟩ := rc_cells (w := W.drew) h8
  obtain ⟨m0', m1', m2', m3'⟩ := rc_cells (w := W.drew) h9
  clear h6 h8 h9
  go_region_held3 (fun U => Below w.heap.size w U ∧ Room U (w.heap.size + 1) ∧ Room U (w.heap.size + 1 + 1) ∧ Nd U a pa ∧ Nd U c pc ∧ Nd U d pd ∧ U.cell? ⟨w.heap.size + 1, 0, none⟩ = some (.int .i64 c.count) ∧ U.cell? ⟨w.heap.size + 1, 1, none⟩ = some (.int .i64 c.total) ∧ U.cell? ⟨w.heap.size + 1, 2, none⟩ = some (.int .i64 c.depth) ∧ U.cell? ⟨w.heap.size + 1, 3, none⟩ = some (.pointer pc) ∧ U.cell? ⟨w1.heap.size, 0, none⟩ = some (.int .i64 a.count) ∧ U.cell? ⟨w1.heap.size, 1, none⟩ = some (.int .i64 a.total) ∧ U.cell? ⟨w1.heap.size, 2, none⟩ = some (.int .i64 a.depth) ∧ U.cell? ⟨w1.heap.size, 3, none⟩ = some (.pointer pa) ∧ U.cell? ⟨w1.heap.size + 1, 0, none⟩ = some (.int .i64 d.count) ∧ U.cell? ⟨w1.heap.size + 1, 1, none⟩ = some (.int .i64 d.total) ∧ U.cell? ⟨w1.heap.size + 1, 2, none⟩ = some (.int .i64 d.depth) ∧ U.cell? ⟨w1.heap.size + 1, 3, none⟩ = some (.pointer pd))
    (first
      | ((with_reducible refine ⟨hbw.drew, hRm6.drew, hRm7.drew, ?_, ?_, ?_, ?_, ?_, ?_, ?_, ?_, ?_, ?_, ?_, ?_, ?_, ?_, ?_⟩) <;> with_reducible assumption)
      | (have hS := ‹Below w.heap.size w _ ∧ Room _ _ ∧ Room _ _ ∧ Nd _ a pa ∧ Nd _ c pc ∧ Nd _ d pd ∧ _›; (with_reducible refine ⟨hS.1.trans (kk.mono hS.1.size), hS.2.1.keep kk, hS.2.2.1.keep kk, hS.2.2.2.1.below kk, hS.2.2.2.2.1.below kk, hS.2.2.2.2.2.1.below kk, ?_, ?_, ?_, ?_, ?_, ?_, ?_, ?_, ?_, ?_, ?_, ?_⟩) <;> exact keep_of kk (by simp only [hS]))
      | (have hS := ‹Below w.heap.size w _ ∧ Room _ _ ∧ Room _ _ ∧ Nd _ a pa ∧ Nd _ c pc ∧ Nd _ d pd ∧ _›; (with_reducible refine ⟨below_set4 (g := w.heap.size + 1) hS.1 ?_, room_same (g := w.heap.size + 1) hS.2.1, room_far (g := w.heap.size + 1) ?_ hS.2.2.1, hS.2.2.2.1.set4 (g := w.heap.size + 1) hS.2.1, hS.2.2.2.2.1.set4 (g := w.heap.size + 1) hS.2.1, hS.2.2.2.2.2.1.set4 (g := w.heap.size + 1) hS.2.1, ?_, ?_, ?_, ?_, ?_, ?_, ?_, ?_, ?_, ?_, ?_, ?_⟩) <;> first | omega | with_reducible exact set4_own hS.2.1 0 _ rfl | with_reducible exact set4_own hS.2.1 1 _ rfl | with_reducible exact set4_own hS.2.1 2 _ rfl | with_reducible exact set4_own hS.2.1 3 _ rfl | exact cell_set4 (by simp <;> omega) (by simp only [hS]))
      | (have hS := ‹Below w.heap.size w _ ∧ Room _ _ ∧ Room _ _ ∧ Nd _ a pa ∧ Nd _ c pc ∧ Nd _ d pd ∧ _›; (with_reducible refine ⟨below_set4 (g := w.heap.size + 1 + 1) hS.1 ?_, room_far (g := w.heap.size + 1 + 1) ?_ hS.2.1, room_same (g := w.heap.size + 1 + 1) hS.2.2.1, hS.2.2.2.1.set4 (g := w.heap.size + 1 + 1) hS.2.2.1, hS.2.2.2.2.1.set4 (g := w.heap.size + 1 + 1) hS.2.2.1, hS.2.2.2.2.2.1.set4 (g := w.heap.size + 1 + 1) hS.2.2.1, ?_, ?_, ?_, ?_, ?_, ?_, ?_, ?_, ?_, ?_, ?_, ?_⟩) <;> first | omega | exact cell_set4 (by simp <;> omega) (by simp only [hS])))
    (first
      | (go_at_call 49; ((with_reducible refine (join_any ?_ ?_ K1a.out K2b.out JO.out).mono ?_)); (exact (‹Below w.heap.size w _ ∧ Room _ _ ∧ Room _ _ ∧ Nd _ a pa ∧ Nd _ c pc ∧ Nd _ d pd ∧ _›).2.2.2.1); (exact (‹Below w.heap.size w _ ∧ Room _ _ ∧ Room _ _ ∧ Nd _ a pa ∧ Nd _ c pc ∧ Nd _ d pd ∧ _›).2.2.2.2.2.1); rintro e w3 ⟨t3, p3, k3, rfl, n3, kk⟩; have hS := ‹Below w.heap.size w _ ∧ Room _ _ ∧ Room _ _ ∧ Nd _ a pa ∧ Nd _ c pc ∧ Nd _ d pd ∧ _›; have R6 := hS.2.1.keep kk; have R7 := hS.2.2.1.keep kk; have nC3 := hS.2.2.2.2.1.below kk; have hb3 := hS.1.trans (kk.mono hS.1.size); clear hS; obtain ⟨v0, v1, v2, v3, f0, f1, f2, f3, f4, f5, f6, f7⟩ := R6.open_; obtain ⟨v0', v1', v2', v3', f0', f1', f2', f3', f4', f5', f6', f7'⟩ := R7.open_))
  all_goals
    go_wp2_with fail
    have hw := two_set (a := c) (b := t3) (pa := pc) (pb := p3) (by omega) R6 R7 nC3 n3 hb3 (show w.heap.size ≤ w.heap.size + 1 by omega) (show w.heap.size ≤ w.heap.size + 1 + 1 by omega)
    exact bodyPost_ret (res_ropes rfl (g := w.heap.size + 1) (k := w.heap.size + 1 + 1) rfl rfl hw.xa hw.xb) rfl (two_end (tk_of K1.out K2.out k3) hw)
end Go.Proofs.Ytfkjnepafgehiaa
