/- The walk of split: the right side is divided. -/
import Derived.Test.YtfkjnepafgehiaaSplitW
namespace Go.Proofs.Ytfkjnepafgehiaa
open Go.RowKit

set_option maxHeartbeats 8000000 in
theorem split_right {l r : T} {x : Int} (hi : SplitAt r) {i : Nat} {p : Option Addr} {w : World} (h1 : l.count < i) (h2 : i < (T.node l x r).count) (hn : Nd w (T.node l x r) p) (hb : (T.node l x r).Bal) (ho : Ok (T.node l x r).list) :
    Calls Try.prog 47 #[.agg #[.int .i64 (T.node l x r).count, .int .i64 (T.node l x r).total, .int .i64 (T.node l x r).depth, .pointer p], .int .i64 i] w (Two (Sp (T.node l x r) i) w) := by
  have d1 := (T.bounds ho).2.2.1
  obtain ⟨o1, o2, o3⟩ := T.parts ho
  have d2 := (T.bounds o1).2.2.1
  have e0 : ((i : Int) == 0) = false := by simp; omega
  have e1 : ((i : Int) == ((T.node l x r).count : Int)) = false := by simp; omega
  have e2 : decide (i ≤ l.count) = false := by simp; omega
  obtain ⟨g, pl, pr, rfl, hn, hl, hr⟩ := hn
  have HI : Hid (∀ W, Below w.heap.size w W → Calls Try.prog 47 #[.agg #[.int .i64 r.count, .int .i64 r.total, .int .i64 r.depth, .pointer pr], .int .i64 ((i : Int) - (l.count : Int) - 1)] W (Two (Sp r (i - l.count - 1)) W)) := Lib.hid (fun W hW => by
    rw [show (i : Int) - (l.count : Int) - 1 = ((i - l.count - 1 : Nat) : Int) by omega]
    exact hi (by simp only [T.count] at h2; omega) (hr.below hW) hb.2.1 o2)
  have kg := heap_lt hn
  have HL := Lib.hid hl
  have HBR := Lib.hid hb.2.1
  have HBL := Lib.hid hb.1
  have HO := Lib.hid ho
  have hB0 : Below w.heap.size w (((w.alloc (.cells #[.int .i64 (T.node l x r).count, .int .i64 (T.node l x r).total, .int .i64 (T.node l x r).depth, .pointer (some ⟨g, 0, none⟩)] 27)).alloc (.cells #[.int .i64 0, .int .i64 0, .int .i64 0, .pointer none] 27)).alloc (.cells #[.int .i64 0, .int .i64 0, .int .i64 0, .pointer none] 27)) := below_three w _ _ _
  have hR1 : Room (((w.alloc (.cells #[.int .i64 (T.node l x r).count, .int .i64 (T.node l x r).total, .int .i64 (T.node l x r).depth, .pointer (some ⟨g, 0, none⟩)] 27)).alloc (.cells #[.int .i64 0, .int .i64 0, .int .i64 0, .pointer none] 27)).alloc (.cells #[.int .i64 0, .int .i64 0, .int .i64 0, .pointer none] 27)) (w.heap.size + 1) := ⟨_, _, _, _, (three_heap w _ _ _).1⟩
  have hR2 : Room (((w.alloc (.cells #[.int .i64 (T.node l x r).count, .int .i64 (T.node l x r).total, .int .i64 (T.node l x r).depth, .pointer (some ⟨g, 0, none⟩)] 27)).alloc (.cells #[.int .i64 0, .int .i64 0, .int .i64 0, .pointer none] 27)).alloc (.cells #[.int .i64 0, .int .i64 0, .int .i64 0, .pointer none] 27)) (w.heap.size + 1 + 1) := ⟨_, _, _, _, (three_heap w _ _ _).2⟩
  obtain ⟨i0, i1, i2, i3, i4, i5, i6, i7, i8⟩ := nd_cells (keep_heap hB0 hn)
  obtain ⟨j0, j1, j2, j3, j4, j5, j6, j7, j8⟩ := nd_cells (keep_heap hB0.drew hn)
  have HN := Lib.hid hn
  have s1 : IntKind.i64.wrap ((i : Int) - (l.count : Int)) = (i : Int) - (l.count : Int) := IntWalk.i64_in _ (by omega)
  have s2 : IntKind.i64.wrap ((i : Int) - (l.count : Int) - 1) = (i : Int) - (l.count : Int) - 1 := IntWalk.i64_in _ (by omega)
  have H1 := Lib.hid h1
  clear hn hl hr hb ho hi o1 o2 o3 h1 h2 d1 d2
  go_enter Try.func47, Try.ntmps47
  go_upto_region 10 with fail
  go_upto_region 11 with fail
  go_cut [47] (fun _ wx => ∃ a pa b pb, Sp r (i - l.count - 1) a b ∧ TwoW w (w.heap.size + 1) (w.heap.size + 1 + 1) a pa b pb wx)
  case first =>
    go_region_held3 (fun W => Below w.heap.size w W ∧ Room W (w.heap.size + 1) ∧ Room W (w.heap.size + 1 + 1) ∧ W.cell? ⟨g, 0, none⟩ = some (.int .i64 l.count) ∧ W.cell? ⟨g, 1, none⟩ = some (.int .i64 l.total) ∧ W.cell? ⟨g, 2, none⟩ = some (.int .i64 l.depth) ∧ W.cell? ⟨g, 3, none⟩ = some (.pointer pl) ∧ W.cell? ⟨g, 4, none⟩ = some (.int .i64 x) ∧ W.cell? ⟨g, 5, none⟩ = some (.int .i64 r.count) ∧ W.cell? ⟨g, 6, none⟩ = some (.int .i64 r.total) ∧ W.cell? ⟨g, 7, none⟩ = some (.int .i64 r.depth) ∧ W.cell? ⟨g, 8, none⟩ = some (.pointer pr))
      (first
        | ((with_reducible refine ⟨hB0.drew, hR1.drew, hR2.drew, ?_, ?_, ?_, ?_, ?_, ?_, ?_, ?_, ?_⟩) <;> with_reducible assumption)
        | (have hS := ‹Below w.heap.size w _ ∧ Room _ _ ∧ Room _ _ ∧ _›; (with_reducible refine ⟨hS.1.trans (kk.mono hS.1.size), hS.2.1.keep kk, hS.2.2.1.keep kk, ?_, ?_, ?_, ?_, ?_, ?_, ?_, ?_, ?_⟩) <;> exact keep_of kk (by simp only [hS]))
        | (have hS := ‹Below w.heap.size w _ ∧ Room _ _ ∧ Room _ _ ∧ _›; (with_reducible refine ⟨below_set4 (g := w.heap.size + 1) hS.1 ?_, room_same (g := w.heap.size + 1) hS.2.1, room_far (g := w.heap.size + 1) ?_ hS.2.2.1, ?_, ?_, ?_, ?_, ?_, ?_, ?_, ?_, ?_⟩) <;> first | omega | exact cell_set4 (by simp <;> omega) (by simp only [hS]))
        | (have hS := ‹Below w.heap.size w _ ∧ Room _ _ ∧ Room _ _ ∧ _›; (with_reducible refine ⟨below_set4 (g := w.heap.size + 1 + 1) hS.1 ?_, room_far (g := w.heap.size + 1 + 1) ?_ hS.2.1, room_same (g := w.heap.size + 1 + 1) hS.2.2.1, ?_, ?_, ?_, ?_, ?_, ?_, ?_, ?_, ?_⟩) <;> first | omega | exact cell_set4 (by simp <;> omega) (by simp only [hS])))
      (first
        | (go_at_call 47; (with_reducible refine (HI.out _ ?_).mono ?_); (exact (‹Below w.heap.size w _ ∧ _›).1); rintro e w1 ⟨a, pa, b, pb, k1, rfl, na, nb, kk⟩; have hS := ‹Below w.heap.size w _ ∧ Room _ _ ∧ Room _ _ ∧ _›; have hb1 := hS.1.trans (kk.mono hS.1.size); have R1 := hS.2.1.keep kk; have R2 := hS.2.2.1.keep kk; clear hS; obtain ⟨v0, v1, v2, v3, f0, f1, f2, f3, f4, f5, f6, f7⟩ := R1.open_; obtain ⟨v0', v1', v2', v3', f0', f1', f2', f3', f4', f5', f6', f7'⟩ := R2.open_))
    all_goals (go_wp2_with fail; go_meet; exact ⟨a, pa, b, pb, k1, two_set (by omega) R1 R2 na nb hb1 (by omega) (by omega)⟩)
  case rest =>
    obtain ⟨a, pa, b, pb, k1, HW⟩ := hcut
    clear i0 i1 i2 i3 i4 i5 i6 i7 i8 j0 j1 j2 j3 j4 j5 j6 j7 j8 hR1 hR2 hB0
    obtain ⟨a0, a1, a2, a3⟩ := rc_cells HW.xa
    obtain ⟨b0, b1, b2, b3⟩ := rc_cells HW.xb
    obtain ⟨i0, i1, i2, i3, i4, i5, i6, i7, i8⟩ := nd_cells (keep_heap HW.u HN.out)
    have HT := Lib.hid HW
    clear HW s1 s2
    go_wp2_with fail
    go_region_with (first
      | (go_at_call 59; ((with_reducible refine (link_any ?_ ?_ HBL.out k1.ba ?_).mono ?_)); (exact (HL.out.below HT.out.u).drew); (exact HT.out.na.drew); (exact split_ok2 k1.la HO.out); rintro e w3 ⟨u, pu, k3, rfl, n3, kk⟩; have b0' := keep_of kk b0; have b1' := keep_of kk b1; have b2' := keep_of kk b2; have b3' := keep_of kk b3; have R1 := Room.keep (w0 := wc.drew) (room_of HT.out.xa) kk; have R2 := Room.keep (w0 := wc.drew) (room_of HT.out.xb) kk; obtain ⟨v0, v1, v2, v3, f0, f1, f2, f3, f4, f5, f6, f7⟩ := R1.open_; obtain ⟨v0', v1', v2', v3', f0', f1', f2', f3', f4', f5', f6', f7'⟩ := R2.open_))
    all_goals
      go_wp2_with fail
      have hw := two_set (a := u) (b := b) (pa := pu) (pb := pb) (by omega) R1 R2 n3 (HT.out.nb.drew.below kk) (HT.out.u.drew.trans (kk.mono HT.out.u.size)) (show w.heap.size ≤ w.heap.size + 1 by omega) (show w.heap.size ≤ w.heap.size + 1 + 1 by omega)
      exact bodyPost_ret (res_ropes rfl (g := w.heap.size + 1) (k := w.heap.size + 1 + 1) rfl rfl hw.xa hw.xb) rfl (two_end (sp_right H1.out k1 k3) hw)
end Go.Proofs.Ytfkjnepafgehiaa
