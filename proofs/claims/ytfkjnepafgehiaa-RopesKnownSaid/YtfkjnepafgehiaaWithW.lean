/- The walk of with. -/
import Derived.Test.YtfkjnepafgehiaaTakeW
namespace Go.Proofs.Ytfkjnepafgehiaa
open Go.RowKit

/-- what with makes -/
structure Wi (t : T) (i : Nat) (s : Int) (u : T) : Prop where
  list : u.list = t.list.set i s
  bal : u.Bal
  dep : u.depth = t.depth
theorem wi_left {l r u : T} {x s : Int} {i : Nat} (hb : (T.node l x r).Bal) (hi : i < l.count) (h : Wi l i s u) : Wi (T.node l x r) i s (T.node u x r) := by
  obtain ⟨b1, b2, b3, b4⟩ := hb
  have hd := h.dep
  refine ⟨?_, ⟨h.bal, b2, by omega, by omega⟩, by simp only [T.depth]; omega⟩
  rw [T.list, T.list, h.list, List.set_append_left _ _ (by rw [T.len]; exact hi)]
theorem wi_right {l r u : T} {x s : Int} {i : Nat} (hb : (T.node l x r).Bal) (hi : l.count < i) (h : Wi r (i - l.count - 1) s u) : Wi (T.node l x r) i s (T.node l x u) := by
  obtain ⟨b1, b2, b3, b4⟩ := hb
  have hd := h.dep
  refine ⟨?_, ⟨b1, h.bal, by omega, by omega⟩, by simp only [T.depth]; omega⟩
  rw [T.list, T.list, h.list, List.set_append_right _ _ (by rw [T.len]; omega), T.len, show i - l.count = (i - l.count - 1) + 1 by omega, List.set_cons_succ, show i - l.count - 1 + 1 - 1 = i - l.count - 1 by omega]
theorem wi_here {l r : T} {x s : Int} (hb : (T.node l x r).Bal) : Wi (T.node l x r) l.count s (T.node l s r) := by
  refine ⟨?_, hb, rfl⟩
  rw [T.list, T.list, List.set_append_right _ _ (by rw [T.len]; omega), T.len, Nat.sub_self, List.set_cons_zero]

/-- the contract of with for one tree -/
def WithAt (s : Int) (t : T) : Prop := ∀ {i : Nat} {p : Option Addr} {w : World}, i < t.count → Nd w t p → t.Bal → Ok (t.list.set i s) → Calls Try.prog 52 #[.agg #[.int .i64 t.count, .int .i64 t.total, .int .i64 t.depth, .pointer p], .int .i64 i, .int .i64 s] w (Gives (Wi t i s) w)

set_option maxHeartbeats 2000000 in
theorem with_left {l r : T} {x s : Int} (hw : WithAt s l) {i : Nat} {p : Option Addr} {w : World} (hi : i < l.count) (hn : Nd w (T.node l x r) p) (hb : (T.node l x r).Bal) (ho : Ok ((T.node l x r).list.set i s)) :
    Calls Try.prog 52 #[.agg #[.int .i64 (T.node l x r).count, .int .i64 (T.node l x r).total, .int .i64 (T.node l x r).depth, .pointer p], .int .i64 i, .int .i64 s] w (Gives (Wi (T.node l x r) i s) w) := by
  have hc : (T.node l x r).count ≤ 4096 := by have := ho.len; rwa [List.length_set, T.len] at this
  simp only [T.count] at hc
  have PW : Hid (∀ u, Wi l i s u → Ok (T.node u x r).list) := Lib.hid (fun u h => by rw [(wi_left hb hi h).list]; exact ho)
  have LW : Hid (∀ u, Wi l i s u → Wi (T.node l x r) i s (T.node u x r)) := Lib.hid (fun u h => wi_left hb hi h)
  have hol : Ok (l.list.set i s) := by
    have h := ho
    rw [T.list, List.set_append_left _ _ (by rw [T.len]; exact hi)] at h
    exact h.app.1
  obtain ⟨g, pl, pr, rfl, hn, hl, hr⟩ := hn
  have kg := heap_lt hn
  have hB0 : Below w.heap.size w ((w.alloc (.cells #[.int .i64 (T.node l x r).count, .int .i64 (T.node l x r).total, .int .i64 (T.node l x r).depth, .pointer (some ⟨g, 0, none⟩)] 27)).alloc (.cells #[.int .i64 0, .int .i64 0, .int .i64 0, .pointer none] 27)) := below_two w _ _
  have hR0 : Room ((w.alloc (.cells #[.int .i64 (T.node l x r).count, .int .i64 (T.node l x r).total, .int .i64 (T.node l x r).depth, .pointer (some ⟨g, 0, none⟩)] 27)).alloc (.cells #[.int .i64 0, .int .i64 0, .int .i64 0, .pointer none] 27)) (w.heap.size + 1) := ⟨_, _, _, _, (two_heap w _ _).2⟩
  obtain ⟨i0, i1, i2, i3, i4, i5, i6, i7, i8⟩ := nd_cells (keep_heap hB0 hn)
  obtain ⟨j0, j1, j2, j3, j4, j5, j6, j7, j8⟩ := nd_cells (keep_heap hB0.drew hn)
  have HI : Hid (∀ W, Below w.heap.size w W → Calls Try.prog 52 #[.agg #[.int .i64 l.count, .int .i64 l.total, .int .i64 l.depth, .pointer pl], .int .i64 i, .int .i64 s] W (Gives (Wi l i s) W)) := Lib.hid (fun W hW => hw hi (hl.below hW) hb.1 hol)
  have HR := Lib.hid hr
  clear hn hl hr hb ho hol hw
  go_enter Try.func52, Try.ntmps52
  go_wp2_with fail
  go_region_held3 (fun U => Below w.heap.size w U ∧ Room U (w.heap.size + 1) ∧ U.cell? ⟨g, 0, none⟩ = some (.int .i64 l.count) ∧ U.cell? ⟨g, 1, none⟩ = some (.int .i64 l.total) ∧ U.cell? ⟨g, 2, none⟩ = some (.int .i64 l.depth) ∧ U.cell? ⟨g, 3, none⟩ = some (.pointer pl) ∧ U.cell? ⟨g, 4, none⟩ = some (.int .i64 x) ∧ U.cell? ⟨g, 5, none⟩ = some (.int .i64 r.count) ∧ U.cell? ⟨g, 6, none⟩ = some (.int .i64 r.total) ∧ U.cell? ⟨g, 7, none⟩ = some (.int .i64 r.depth) ∧ U.cell? ⟨g, 8, none⟩ = some (.pointer pr))
    (first
      | ((with_reducible refine ⟨hB0.drew, hR0.drew, ?_, ?_, ?_, ?_, ?_, ?_, ?_, ?_, ?_⟩) <;> with_reducible assumption)
      | (have hS := ‹Below w.heap.size w _ ∧ Room _ _ ∧ _›; (with_reducible refine ⟨hS.1.trans (kk.mono hS.1.size), hS.2.1.keep kk, ?_, ?_, ?_, ?_, ?_, ?_, ?_, ?_, ?_⟩) <;> exact keep_of kk (by simp only [hS]))
      | (have hS := ‹Below w.heap.size w _ ∧ Room _ _ ∧ _›; (with_reducible refine ⟨below_set4 (g := w.heap.size + 1) hS.1 ?_, room_same (g := w.heap.size + 1) hS.2.1, ?_, ?_, ?_, ?_, ?_, ?_, ?_, ?_, ?_⟩) <;> first | omega | exact cell_set4 (by simp <;> omega) (by simp only [hS])))
    (first
      | (go_at_call 52; ((with_reducible refine (HI.out _ ?_).mono ?_)); (exact (‹Below w.heap.size w _ ∧ _›).1); rintro e w2 ⟨t2, p2, k2, rfl, n2, kk⟩)
      | (go_at_call 54; ((with_reducible refine (build_any n2 ?_ (PW.out _ k2)).mono ?_)); (exact HR.out.below (‹Below w.heap.size w _ ∧ _›).1); rintro e w3 ⟨_, p3, rfl, rfl, n3, kk⟩; have hR3 := (‹Below w.heap.size w _ ∧ Room _ _ ∧ _›).2.1.keep kk; obtain ⟨v0, v1, v2, v3, c0, c1, c2, c3, f0, f1, f2, f3⟩ := hR3.open_))
  go_wp2_with fail
  exact bodyPost_ret (res_rope rfl (g := w.heap.size + 1) rfl (heap_set4 hR3)) rfl (gives_set (LW.out t2 k2) n3 hR3 (‹Below w.heap.size w _ ∧ _›).1)

set_option maxHeartbeats 2000000 in
theorem with_right {l r : T} {x s : Int} (hw : WithAt s r) {i : Nat} {p : Option Addr} {w : World} (hi : l.count < i) (hi2 : i < (T.node l x r).count) (hn : Nd w (T.node l x r) p) (hb : (T.node l x r).Bal) (ho : Ok ((T.node l x r).list.set i s)) :
    Calls Try.prog 52 #[.agg #[.int .i64 (T.node l x r).count, .int .i64 (T.node l x r).total, .int .i64 (T.node l x r).depth, .pointer p], .int .i64 i, .int .i64 s] w (Gives (Wi (T.node l x r) i s) w) := by
  have hc : (T.node l x r).count ≤ 4096 := by have := ho.len; rwa [List.length_set, T.len] at this
  simp only [T.count] at hc
  have PW : Hid (∀ u, Wi r (i - l.count - 1) s u → Ok (T.node l x u).list) := Lib.hid (fun u h => by rw [(wi_right hb hi h).list]; exact ho)
  have LW : Hid (∀ u, Wi r (i - l.count - 1) s u → Wi (T.node l x r) i s (T.node l x u)) := Lib.hid (fun u h => wi_right hb hi h)
  have hor : Ok (r.list.set (i - l.count - 1) s) := by
    have h := ho
    rw [T.list, List.set_append_right _ _ (by rw [T.len]; omega), T.len, show i - l.count = (i - l.count - 1) + 1 by omega, List.set_cons_succ] at h
    exact h.app.2.sub (List.sublist_cons_self _ _)
  have hi3 := hi2
  simp only [T.count] at hi3
  have s1 : IntKind.i64.wrap ((i : Int) - (l.count : Int)) = (i : Int) - (l.count : Int) := IntWalk.i64_in _ (by omega)
  have s2 : IntKind.i64.wrap ((i : Int) - (l.count : Int) - 1) = (i : Int) - (l.count : Int) - 1 := IntWalk.i64_in _ (by omega)
  obtain ⟨g, pl, pr, rfl, hn, hl, hr⟩ := hn
  have kg := heap_lt hn
  have hB0 : Below w.heap.size w ((w.alloc (.cells #[.int .i64 (T.node l x r).count, .int .i64 (T.node l x r).total, .int .i64 (T.node l x r).depth, .pointer (some ⟨g, 0, none⟩)] 27)).alloc (.cells #[.int .i64 0, .int .i64 0, .int .i64 0, .pointer none] 27)) := below_two w _ _
  have hR0 : Room ((w.alloc (.cells #[.int .i64 (T.node l x r).count, .int .i64 (T.node l x r).total, .int .i64 (T.node l x r).depth, .pointer (some ⟨g, 0, none⟩)] 27)).alloc (.cells #[.int .i64 0, .int .i64 0, .int .i64 0, .pointer none] 27)) (w.heap.size + 1) := ⟨_, _, _, _, (two_heap w _ _).2⟩
  obtain ⟨i0, i1, i2, i3, i4, i5, i6, i7, i8⟩ := nd_cells (keep_heap hB0 hn)
  obtain ⟨j0, j1, j2, j3, j4, j5, j6, j7, j8⟩ := nd_cells (keep_heap hB0.drew hn)
  have HI : Hid (∀ W, Below w.heap.size w W → Calls Try.prog 52 #[.agg #[.int .i64 r.count, .int .i64 r.total, .int .i64 r.depth, .pointer pr], .int .i64 ((i : Int) - (l.count : Int) - 1), .int .i64 s] W (Gives (Wi r (i - l.count - 1) s) W)) := Lib.hid (fun W hW => by
    rw [show (i : Int) - (l.count : Int) - 1 = ((i - l.count - 1 : Nat) : Int) by omega]
    exact hw (by omega) (hr.below hW) hb.2.1 hor)
  have HL := Lib.hid hl
  have e9 : decide (i < l.count) = false := by simp; omega
  have hi4 : (i : Int) ≤ 4096 := by omega
  have hi5 : (l.count : Int) ≤ 4096 := by omega
  clear hn hl hr hb ho hor hw hi2 hi3
  go_enter Try.func52, Try.ntmps52
  go_wp2_with fail
  go_region_held3 (fun U => Below w.heap.size w U ∧ Room U (w.heap.size + 1) ∧ U.cell? ⟨g, 0, none⟩ = some (.int .i64 l.count) ∧ U.cell? ⟨g, 1, none⟩ = some (.int .i64 l.total) ∧ U.cell? ⟨g, 2, none⟩ = some (.int .i64 l.depth) ∧ U.cell? ⟨g, 3, none⟩ = some (.pointer pl) ∧ U.cell? ⟨g, 4, none⟩ = some (.int .i64 x) ∧ U.cell? ⟨g, 5, none⟩ = some (.int .i64 r.count) ∧ U.cell? ⟨g, 6, none⟩ = some (.int .i64 r.total) ∧ U.cell? ⟨g, 7, none⟩ = some (.int .i64 r.depth) ∧ U.cell? ⟨g, 8, none⟩ = some (.pointer pr))
    (first
      | ((with_reducible refine ⟨hB0.drew, hR0.drew, ?_, ?_, ?_, ?_, ?_, ?_, ?_, ?_, ?_⟩) <;> with_reducible assumption)
      | (have hS := ‹Below w.heap.size w _ ∧ Room _ _ ∧ _›; (with_reducible refine ⟨hS.1.trans (kk.mono hS.1.size), hS.2.1.keep kk, ?_, ?_, ?_, ?_, ?_, ?_, ?_, ?_, ?_⟩) <;> exact keep_of kk (by simp only [hS]))
      | (have hS := ‹Below w.heap.size w _ ∧ Room _ _ ∧ _›; (with_reducible refine ⟨below_set4 (g := w.heap.size + 1) hS.1 ?_, room_same (g := w.heap.size + 1) hS.2.1, ?_, ?_, ?_, ?_, ?_, ?_, ?_, ?_, ?_⟩) <;> first | omega | exact cell_set4 (by simp <;> omega) (by simp only [hS])))
    (first
      | (go_at_call 52; ((with_reducible refine (HI.out _ ?_).mono ?_)); (exact (‹Below w.heap.size w _ ∧ _›).1); rintro e w2 ⟨t2, p2, k2, rfl, n2, kk⟩)
      | (go_at_call 54; ((with_reducible refine (build_any ?_ n2 (PW.out _ k2)).mono ?_)); (exact HL.out.below (‹Below w.heap.size w _ ∧ _›).1); rintro e w3 ⟨_, p3, rfl, rfl, n3, kk⟩; have hR3 := (‹Below w.heap.size w _ ∧ Room _ _ ∧ _›).2.1.keep kk; obtain ⟨v0, v1, v2, v3, c0, c1, c2, c3, f0, f1, f2, f3⟩ := hR3.open_))
  go_wp2_with fail
  exact bodyPost_ret (res_rope rfl (g := w.heap.size + 1) rfl (heap_set4 hR3)) rfl (gives_set (LW.out t2 k2) n3 hR3 (‹Below w.heap.size w _ ∧ _›).1)

set_option maxHeartbeats 2000000 in
theorem with_here {l r : T} {x s : Int} {i : Nat} {p : Option Addr} {w : World} (hi : l.count = i) (hn : Nd w (T.node l x r) p) (hb : (T.node l x r).Bal) (ho : Ok ((T.node l x r).list.set i s)) :
    Calls Try.prog 52 #[.agg #[.int .i64 (T.node l x r).count, .int .i64 (T.node l x r).total, .int .i64 (T.node l x r).depth, .pointer p], .int .i64 i, .int .i64 s] w (Gives (Wi (T.node l x r) i s) w) := by
  have hc : (T.node l x r).count ≤ 4096 := by have := ho.len; rwa [List.length_set, T.len] at this
  simp only [T.count] at hc
  have PW : Hid (Ok (T.node l s r).list) := Lib.hid (by rw [(wi_here (s := s) hb).list, hi]; exact ho)
  have LW : Hid (Wi (T.node l x r) i s (T.node l s r)) := Lib.hid (hi ▸ wi_here hb)
  obtain ⟨g, pl, pr, rfl, hn, hl, hr⟩ := hn
  have kg := heap_lt hn
  have hB0 : Below w.heap.size w ((w.alloc (.cells #[.int .i64 (T.node l x r).count, .int .i64 (T.node l x r).total, .int .i64 (T.node l x r).depth, .pointer (some ⟨g, 0, none⟩)] 27)).alloc (.cells #[.int .i64 0, .int .i64 0, .int .i64 0, .pointer none] 27)) := below_two w _ _
  have hR0 : Room ((w.alloc (.cells #[.int .i64 (T.node l x r).count, .int .i64 (T.node l x r).total, .int .i64 (T.node l x r).depth, .pointer (some ⟨g, 0, none⟩)] 27)).alloc (.cells #[.int .i64 0, .int .i64 0, .int .i64 0, .pointer none] 27)) (w.heap.size + 1) := ⟨_, _, _, _, (two_heap w _ _).2⟩
  obtain ⟨i0, i1, i2, i3, i4, i5, i6, i7, i8⟩ := nd_cells (keep_heap hB0 hn)
  obtain ⟨j0, j1, j2, j3, j4, j5, j6, j7, j8⟩ := nd_cells (keep_heap hB0.drew hn)
  have HL := Lib.hid hl
  have HR := Lib.hid hr
  subst hi
  clear hn hl hr hb ho
  go_enter Try.func52, Try.ntmps52
  go_wp2_with fail
  go_region_held3 (fun U => Below w.heap.size w U ∧ Room U (w.heap.size + 1) ∧ U.cell? ⟨g, 0, none⟩ = some (.int .i64 l.count) ∧ U.cell? ⟨g, 1, none⟩ = some (.int .i64 l.total) ∧ U.cell? ⟨g, 2, none⟩ = some (.int .i64 l.depth) ∧ U.cell? ⟨g, 3, none⟩ = some (.pointer pl) ∧ U.cell? ⟨g, 4, none⟩ = some (.int .i64 x) ∧ U.cell? ⟨g, 5, none⟩ = some (.int .i64 r.count) ∧ U.cell? ⟨g, 6, none⟩ = some (.int .i64 r.total) ∧ U.cell? ⟨g, 7, none⟩ = some (.int .i64 r.depth) ∧ U.cell? ⟨g, 8, none⟩ = some (.pointer pr))
    (first
      | ((with_reducible refine ⟨hB0.drew, hR0.drew, ?_, ?_, ?_, ?_, ?_, ?_, ?_, ?_, ?_⟩) <;> with_reducible assumption)
      | (have hS := ‹Below w.heap.size w _ ∧ Room _ _ ∧ _›; (with_reducible refine ⟨hS.1.trans (kk.mono hS.1.size), hS.2.1.keep kk, ?_, ?_, ?_, ?_, ?_, ?_, ?_, ?_, ?_⟩) <;> exact keep_of kk (by simp only [hS]))
      | (have hS := ‹Below w.heap.size w _ ∧ Room _ _ ∧ _›; (with_reducible refine ⟨below_set4 (g := w.heap.size + 1) hS.1 ?_, room_same (g := w.heap.size + 1) hS.2.1, ?_, ?_, ?_, ?_, ?_, ?_, ?_, ?_, ?_⟩) <;> first | omega | exact cell_set4 (by simp <;> omega) (by simp only [hS])))
    (first
      | (go_at_call 54; ((with_reducible refine (build_any ?_ ?_ PW.out).mono ?_)); (exact HL.out.below (‹Below w.heap.size w _ ∧ _›).1); (exact HR.out.below (‹Below w.heap.size w _ ∧ _›).1); rintro e w3 ⟨_, p3, rfl, rfl, n3, kk⟩; have hR3 := (‹Below w.heap.size w _ ∧ Room _ _ ∧ _›).2.1.keep kk; obtain ⟨v0, v1, v2, v3, c0, c1, c2, c3, f0, f1, f2, f3⟩ := hR3.open_))
  go_wp2_with fail
  exact bodyPost_ret (res_rope rfl (g := w.heap.size + 1) rfl (heap_set4 hR3)) rfl (gives_set (LW.out) n3 hR3 (‹Below w.heap.size w _ ∧ _›).1)

theorem with_at (s : Int) (t : T) : WithAt s t := by
  induction t with
  | nil => intro i p w hi hn hb ho; simp [T.count] at hi
  | node l x r hl hr =>
    intro i p w hi hn hb ho
    rcases Nat.lt_trichotomy i l.count with h | h | h
    · exact with_left hl h hn hb ho
    · exact with_here h.symm hn hb ho
    · exact with_right hr h hi hn hb ho
end Go.Proofs.Ytfkjnepafgehiaa
