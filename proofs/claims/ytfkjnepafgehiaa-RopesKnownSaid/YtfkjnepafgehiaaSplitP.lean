/- The walk of Split. -/
import Derived.Test.YtfkjnepafgehiaaPubW
namespace Go.Proofs.Ytfkjnepafgehiaa
open Go.RowKit

/-- Two ropes and an error are returned. -/
def TwoE (P : T → T → Prop) (f : Int) (w : World) (e : Ending) (w' : World) : Prop :=
  ∃ a pa b pb, P a b ∧ e = .returned (.tuple #[.agg #[.int .i64 a.count, .int .i64 a.total, .int .i64 a.depth, .pointer pa], .agg #[.int .i64 b.count, .int .i64 b.total, .int .i64 b.depth, .pointer pb], .int .i64 f]) ∧ Nd w' a pa ∧ Nd w' b pb ∧ Below w.heap.size w w'
theorem four_heap (w : World) (A B C D : Obj) : ((((w.alloc A).alloc B).alloc C).alloc D).heap[w.heap.size]? = some A ∧ ((((w.alloc A).alloc B).alloc C).alloc D).heap[w.heap.size + 1]? = some B ∧ ((((w.alloc A).alloc B).alloc C).alloc D).heap[w.heap.size + 1 + 1]? = some C :=
  ⟨keep_heap (below_three (w.alloc A) B C D) (heap_alloc_new w A), (Below.heap_alloc _ _ _ (by simp <;> omega)).trans (three_heap w A B C).1, (Below.heap_alloc _ _ _ (by simp)).trans (three_heap w A B C).2⟩
theorem below_four (w : World) (A B C D : Obj) : Below w.heap.size w ((((w.alloc A).alloc B).alloc C).alloc D) := (below_three w A B C).alloc (below_three w A B C).size _
set_option maxHeartbeats 1000000 in
theorem splitP_bad {t : T} {p : Option Addr} {w : World} (i : Int) (ho : Ok t.list) (hi : i ≤ 9223372036854775807) (hb : i < 0 ∨ (t.count : Int) < i) :
    Calls Try.prog 23 #[.agg #[.int .i64 t.count, .int .i64 t.total, .int .i64 t.depth, .pointer p], .int .i64 i] w (TwoE (fun a b => a = .nil ∧ b = .nil) 4 w) := by
  have HP := Lib.hid (part_any t.count t.total t.depth p i 0 (((w.alloc (.cells #[.int .i64 t.count, .int .i64 t.total, .int .i64 t.depth, .pointer p] 27)).alloc (.cells #[.int .i64 0, .int .i64 0, .int .i64 0, .pointer none] 27)).alloc (.cells #[.int .i64 0, .int .i64 0, .int .i64 0, .pointer none] 27)) (T.bounds ho).2.2.1 hi)
  rw [partE_bad (by omega)] at HP
  have HB := Lib.hid (below_four w (.cells #[.int .i64 t.count, .int .i64 t.total, .int .i64 t.depth, .pointer p] 27) (.cells #[.int .i64 0, .int .i64 0, .int .i64 0, .pointer none] 27) (.cells #[.int .i64 0, .int .i64 0, .int .i64 0, .pointer none] 27) (.cells #[.int .i64 t.count, .int .i64 t.total, .int .i64 t.depth, .pointer p] 27))
  have H4 := Lib.hid (four_heap w (.cells #[.int .i64 t.count, .int .i64 t.total, .int .i64 t.depth, .pointer p] 27) (.cells #[.int .i64 0, .int .i64 0, .int .i64 0, .pointer none] 27) (.cells #[.int .i64 0, .int .i64 0, .int .i64 0, .pointer none] 27) (.cells #[.int .i64 t.count, .int .i64 t.total, .int .i64 t.depth, .pointer p] 27))
  clear ho hi hb
  go_enter Try.func23, Try.ntmps23
  go_wp2_with fail
  refine HP.out.mono ?_
  rintro e w' ⟨rfl, rfl⟩
  go_wp2_with fail
  exact bodyPost_ret (res_ropes_err rfl (g := w.heap.size + 1) (k := w.heap.size + 1 + 1) rfl rfl H4.out.2.1 H4.out.2.2) rfl ⟨.nil, none, .nil, none, ⟨rfl, rfl⟩, rfl, rfl, rfl, HB.out⟩
theorem TwoW.drew {w W : World} {g h : Nat} {a b : T} {pa pb : Option Addr} (hw : TwoW w g h a pa b pb W) : TwoW w g h a pa b pb W.drew := ⟨hw.xa, hw.xb, hw.na.drew, hw.nb.drew, hw.u.drew⟩
theorem two_one {w W : World} {g h : Nat} {a b : T} {pa pb : Option Addr} (hgh : g ≠ h) (hw : TwoW w g h a pa b pb W) (h1 : w.heap.size ≤ g) :
    TwoW w g h a pa b pb ((((W.setCell ⟨g, 0, none⟩ (.int .i64 a.count)).setCell ⟨g, 1, none⟩ (.int .i64 a.total)).setCell ⟨g, 2, none⟩ (.int .i64 a.depth)).setCell ⟨g, 3, none⟩ (.pointer pa)) :=
  ⟨heap_set4 (room_of hw.xa), far_set4 (Ne.symm hgh) hw.xb, hw.na.set4 (room_of hw.xa), hw.nb.set4 (room_of hw.xa), below_set4 hw.u h1⟩
theorem Room.frozen {W : World} {g : Nat} (h : Room W g) : W.frozen? ⟨g, 0, none⟩ = false ∧ W.frozen? ⟨g, 1, none⟩ = false ∧ W.frozen? ⟨g, 2, none⟩ = false ∧ W.frozen? ⟨g, 3, none⟩ = false := by
  obtain ⟨v0, v1, v2, v3, h⟩ := h
  exact ⟨by simp [World.frozen?, h], by simp [World.frozen?, h], by simp [World.frozen?, h], by simp [World.frozen?, h]⟩
theorem set_same {W : World} {b o : Nat} {v : Value} (h : W.cell? ⟨b, o, none⟩ = some v) : W.setCell ⟨b, o, none⟩ v = W := by
  have e : W.heap.modify b (fun | .cells c elem frozen => .cells (if (none : Option Nat).isSome then c else c.setIfInBounds o v) elem frozen | x => x) = W.heap := by
    apply Array.ext_getElem?
    intro i
    rw [Array.getElem?_modify]
    by_cases hi : b = i
    · subst hi
      rw [if_pos rfl]
      unfold World.cell? at h
      cases hb : W.heap[b]? with
      | none => rfl
      | some x =>
        cases x with
        | cells c elem fr =>
          simp [hb] at h
          obtain ⟨ho, hv⟩ := Array.getElem?_eq_some_iff.1 h
          subst hv
          simp only [Option.map_some, Option.isSome_none, Bool.false_eq_true, if_false]
          congr 2
          apply Array.ext_getElem?
          intro j
          rw [Array.getElem?_setIfInBounds]
          by_cases hj : o = j
          · subst hj; simp [ho]
          · rw [if_neg hj]
        | _ => rfl
    · rw [if_neg hi]
  obtain ⟨hp, tp, dr, os, ou⟩ := W
  exact congrArg (fun x => (⟨x, tp, dr, os, ou⟩ : World)) e
theorem cells8 {w W : World} {g h : Nat} {a b : T} {pa pb : Option Addr} (hw : TwoW w g h a pa b pb W) : W.cell? ⟨g, 0, none⟩ = some (.int .i64 a.count) ∧ W.cell? ⟨g, 1, none⟩ = some (.int .i64 a.total) ∧ W.cell? ⟨g, 2, none⟩ = some (.int .i64 a.depth) ∧ W.cell? ⟨g, 3, none⟩ = some (.pointer pa) ∧ W.cell? ⟨h, 0, none⟩ = some (.int .i64 b.count) ∧ W.cell? ⟨h, 1, none⟩ = some (.int .i64 b.total) ∧ W.cell? ⟨h, 2, none⟩ = some (.int .i64 b.depth) ∧ W.cell? ⟨h, 3, none⟩ = some (.pointer pb) := by
  obtain ⟨a0, a1, a2, a3⟩ := rc_cells hw.xa
  obtain ⟨b0, b1, b2, b3⟩ := rc_cells hw.xb
  exact ⟨a0, a1, a2, a3, b0, b1, b2, b3⟩
set_option maxHeartbeats 1000000 in
theorem splitP_ok {t : T} {p : Option Addr} {w : World} {i : Nat} (hn : Nd w t p) (hbal : t.Bal) (ho : Ok t.list) (hi : i ≤ t.count) :
    Calls Try.prog 23 #[.agg #[.int .i64 t.count, .int .i64 t.total, .int .i64 t.depth, .pointer p], .int .i64 i] w (TwoE (Sp t i) 0 w) := by
  have hc := (T.bounds ho).2.2.1
  have HP := Lib.hid (part_any t.count t.total t.depth p i 0 (((w.alloc (.cells #[.int .i64 t.count, .int .i64 t.total, .int .i64 t.depth, .pointer p] 27)).alloc (.cells #[.int .i64 0, .int .i64 0, .int .i64 0, .pointer none] 27)).alloc (.cells #[.int .i64 0, .int .i64 0, .int .i64 0, .pointer none] 27)) hc (by omega))
  rw [show partE t.count i 0 = 0 from partE_ok (n := 0) (by omega)] at HP
  have hB0 := below_four w (.cells #[.int .i64 t.count, .int .i64 t.total, .int .i64 t.depth, .pointer p] 27) (.cells #[.int .i64 0, .int .i64 0, .int .i64 0, .pointer none] 27) (.cells #[.int .i64 0, .int .i64 0, .int .i64 0, .pointer none] 27) (.cells #[.int .i64 t.count, .int .i64 t.total, .int .i64 t.depth, .pointer p] 27)
  have H4 := Lib.hid (four_heap w (.cells #[.int .i64 t.count, .int .i64 t.total, .int .i64 t.depth, .pointer p] 27) (.cells #[.int .i64 0, .int .i64 0, .int .i64 0, .pointer none] 27) (.cells #[.int .i64 0, .int .i64 0, .int .i64 0, .pointer none] 27) (.cells #[.int .i64 t.count, .int .i64 t.total, .int .i64 t.depth, .pointer p] 27))
  have HS := Lib.hid (split_any hi (hn.below hB0) hbal ho)
  clear hn hbal ho hi
  go_enter Try.func23, Try.ntmps23
  go_wp2_with fail
  refine HP.out.mono ?_
  rintro e w' ⟨rfl, rfl⟩
  go_wp2_with fail
  refine HS.out.mono ?_
  rintro e w1 ⟨a, pa, b, pb, k1, rfl, na, nb, kk⟩
  have R1 : Room w1 (w.heap.size + 1) := ⟨_, _, _, _, keep_heap kk H4.out.2.1⟩
  have R2 : Room w1 (w.heap.size + 1 + 1) := ⟨_, _, _, _, keep_heap kk H4.out.2.2⟩
  have hb1 := hB0.trans (kk.mono hB0.size)
  obtain ⟨v0, v1, v2, v3, f0, f1, f2, f3, f4, f5, f6, f7⟩ := R1.open_
  obtain ⟨v0', v1', v2', v3', f0', f1', f2', f3', f4', f5', f6', f7'⟩ := R2.open_
  go_wp2_with fail
  obtain ⟨W, HW, hW⟩ : ∃ W, TwoW w (w.heap.size + 1) (w.heap.size + 1 + 1) a pa b pb W ∧ W = _ := ⟨_, two_set (by omega) R1 R2 na nb hb1 (by omega) (by omega), rfl⟩
  rw [← hW]
  have K1 := Lib.hid k1
  clear hW f0 f1 f2 f3 f4 f5 f6 f7 f0' f1' f2' f3' f4' f5' f6' f7' kk R1 R2 hB0 hb1 na nb k1
  obtain ⟨a0, a1, a2, a3⟩ := rc_cells HW.xa
  obtain ⟨b0, b1, b2, b3⟩ := rc_cells HW.xb
  have HT := Lib.hid HW
  clear HW
  have H0 := Lib.hid HT.out.drew
  obtain ⟨f4, f5, f6, f7⟩ := (room_of HT.out.xa).frozen
  obtain ⟨f4', f5', f6', f7'⟩ := (room_of HT.out.xb).frozen
  have g0 := set_same a0
  have g1 := set_same a1
  have g2 := set_same a2
  have g3 := set_same a3
  have g4 := set_same b0
  have g5 := set_same b1
  have g6 := set_same b2
  have g7 := set_same b3
  go_region_held3 (fun U => U.cell? ⟨w.heap.size + 1, 0, none⟩ = some (.int .i64 a.count) ∧ U.cell? ⟨w.heap.size + 1, 1, none⟩ = some (.int .i64 a.total) ∧ U.cell? ⟨w.heap.size + 1, 2, none⟩ = some (.int .i64 a.depth) ∧ U.cell? ⟨w.heap.size + 1, 3, none⟩ = some (.pointer pa) ∧ U.cell? ⟨w.heap.size + 1 + 1, 0, none⟩ = some (.int .i64 b.count) ∧ U.cell? ⟨w.heap.size + 1 + 1, 1, none⟩ = some (.int .i64 b.total) ∧ U.cell? ⟨w.heap.size + 1 + 1, 2, none⟩ = some (.int .i64 b.depth) ∧ U.cell? ⟨w.heap.size + 1 + 1, 3, none⟩ = some (.pointer pb))
    (with_reducible exact cells8 H0.out) (fail)
  all_goals
    go_wp2_with fail
    exact bodyPost_ret (res_ropes_err rfl (g := w.heap.size + 1) (k := w.heap.size + 1 + 1) rfl rfl H0.out.xa H0.out.xb) rfl ⟨a, pa, b, pb, K1.out, rfl, H0.out.na, H0.out.nb, H0.out.u⟩
end Go.Proofs.Ytfkjnepafgehiaa
