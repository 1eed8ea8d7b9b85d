/- The walk of split: the left side is divided. -/
import Derived.Test.YtfkjnepafgehiaaSplitW
namespace Go.Proofs.Ytfkjnepafgehiaa
open Go.RowKit

set_option maxHeartbeats 4000000 in
theorem split_left {l r : T} {x : Int} (hi : SplitAt l) {i : Nat} {p : Option Addr} {w : World} (h0 : 0 < i) (h1 : i ≤ l.count) (hn : Nd w (T.node l x r) p) (hb : (T.node l x r).Bal) (ho : Ok (T.node l x r).list) :
    Calls Try.prog 47 #[.agg #[.int .i64 (T.node l x r).count, .int .i64 (T.node l x r).total, .int .i64 (T.node l x r).depth, .pointer p], .int .i64 i] w (Two (Sp (T.node l x r) i) w) := by
  have d1 := (T.bounds ho).2.2.1
  obtain ⟨o1, o2, o3⟩ := T.parts ho
  have d2 := (T.bounds o1).2.2.1
  have e0 : ((i : Int) == 0) = false := by simp; omega
  have e1 : ((i : Int) == ((T.node l x r).count : Int)) = false := by simp only [T.count]; simp; omega
  obtain ⟨g, pl, pr, rfl, hn, hl, hr⟩ := hn
  have HI : Hid (∀ W, Below w.heap.size w W → Calls Try.prog 47 #[.agg #[.int .i64 l.count, .int .i64 l.total, .int .i64 l.depth, .pointer pl], .int .i64 i] W (Two (Sp l i) W)) := Lib.hid (fun W hW => hi h1 (hl.below hW) hb.1 o1)
  have kg := heap_lt hn
  have HR := Lib.hid hr
  have HBR := Lib.hid hb.2.1
  have HBL := Lib.hid hb.1
  have HO := Lib.hid ho
  have hB0 : Below w.heap.size w (((w.alloc (.cells #[.int .i64 (T.node l x r).count, .int .i64 (T.node l x r).total, .int .i64 (T.node l x r).depth, .pointer (some ⟨g, 0, none⟩)] 27)).alloc (.cells #[.int .i64 0, .int .i64 0, .int .i64 0, .pointer none] 27)).alloc (.cells #[.int .i64 0, .int .i64 0, .int .i64 0, .pointer none] 27)) := below_three w _ _ _
  have hR1 : Room (((w.alloc (.cells #[.int .i64 (T.node l x r).count, .int .i64 (T.node l x r).total, .int .i64 (T.node l x r).depth, .pointer (some ⟨g, 0, none⟩)] 27)).alloc (.cells #[.int .i64 0, .int .i64 0, .int .i64 0, .pointer none] 27)).alloc (.cells #[.int .i64 0, .int .i64 0, .int .i64 0, .pointer none] 27)) (w.heap.size + 1) := ⟨_, _, _, _, (three_heap w _ _ _).1⟩
  have hR2 : Room (((w.alloc (.cells #[.int .i64 (T.node l x r).count, .int .i64 (T.node l x r).total, .int .i64 (T.node l x r).depth, .pointer (some ⟨g, 0, none⟩)] 27)).alloc (.cells #[.int .i64 0, .int .i64 0, .int .i64 0, .pointer none] 27)).alloc (.cells #[.int .i64 0, .int .i64 0, .int .i64 0, .pointer none] 27)) (w.heap.size + 1 + 1) := ⟨_, _, _, _, (three_heap w _ _ _).2⟩
  obtain ⟨i0, i1, i2, i3, i4, i5, i6, i7, i8⟩ := nd_cells (keep_heap hB0 hn)
  have HN := Lib.hid hn
  clear hn hl hr hb ho hi o1 o2 o3
  go_enter Try.func47, Try.ntmps47
  go_wp2_with fail
  refine (HI.out _ hB0).mono ?_
  rintro e w1 ⟨a, pa, b, pb, k1, rfl, na, nb, kk⟩
  have R1 := hR1.keep kk
  have R2 := hR2.keep kk
  have hb1 := hB0.trans (kk.mono hB0.size)
  obtain ⟨v0, v1, v2, v3, f0, f1, f2, f3, f4, f5, f6, f7⟩ := R1.open_
  obtain ⟨v0', v1', v2', v3', f0', f1', f2', f3', f4', f5', f6', f7'⟩ := R2.open_
  go_wp2_with fail
  obtain ⟨W, HW, hW⟩ : ∃ W, TwoW w (w.heap.size + 1) (w.heap.size + 1 + 1) a pa b pb W ∧ W = _ := ⟨_, two_set (by omega) R1 R2 na nb hb1 (by omega) (by omega), rfl⟩
  rw [← hW]
  clear hW i0 i1 i2 i3 i4 i5 i6 i7 i8 f0 f1 f2 f3 f4 f5 f6 f7 f0' f1' f2' f3' f4' f5' f6' f7' kk R1 R2 hR1 hR2 hB0 hb1
  obtain ⟨a0, a1, a2, a3⟩ := rc_cells HW.xa
  obtain ⟨b0, b1, b2, b3⟩ := rc_cells HW.xb
  obtain ⟨i0, i1, i2, i3, i4, i5, i6, i7, i8⟩ := nd_cells (keep_heap HW.u HN.out)
  have HT := Lib.hid HW
  clear HW
  go_region_with (first
    | (go_at_call 59; ((with_reducible refine (link_any ?_ ?_ k1.bb HBR.out ?_).mono ?_)); (exact HT.out.nb.drew); (exact (HR.out.below HT.out.u).drew); (exact split_ok k1.lb HO.out); rintro e w3 ⟨u, pu, k3, rfl, n3, kk⟩; have a0' := keep_of kk a0; have a1' := keep_of kk a1; have a2' := keep_of kk a2; have a3' := keep_of kk a3; have R1 := Room.keep (w0 := W.drew) (room_of HT.out.xa) kk; have R2 := Room.keep (w0 := W.drew) (room_of HT.out.xb) kk; obtain ⟨v0, v1, v2, v3, f0, f1, f2, f3, f4, f5, f6, f7⟩ := R1.open_; obtain ⟨v0', v1', v2', v3', f0', f1', f2', f3', f4', f5', f6', f7'⟩ := R2.open_))
  all_goals
    go_wp2_with fail
    have hw := two_set (a := a) (b := u) (pa := pa) (pb := pu) (by omega) R1 R2 (HT.out.na.drew.below kk) n3 (HT.out.u.drew.trans (kk.mono HT.out.u.size)) (show w.heap.size ≤ w.heap.size + 1 by omega) (show w.heap.size ≤ w.heap.size + 1 + 1 by omega)
    exact bodyPost_ret (res_ropes rfl (g := w.heap.size + 1) (k := w.heap.size + 1 + 1) rfl rfl hw.xa hw.xb) rfl (two_end (sp_left h1 k1 k3) hw)
end Go.Proofs.Ytfkjnepafgehiaa
