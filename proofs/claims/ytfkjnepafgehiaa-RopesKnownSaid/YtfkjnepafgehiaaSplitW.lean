/- The walk of split. -/
import Derived.Test.YtfkjnepafgehiaaLinkW
import Derived.Deep.RegionLaw
namespace Go.Proofs.Ytfkjnepafgehiaa
open Go.RowKit

/-- what split makes of a tree -/
structure Sp (t : T) (i : Nat) (a b : T) : Prop where
  la : a.list = t.list.take i
  lb : b.list = t.list.drop i
  ba : a.Bal
  bb : b.Bal
/-- Two ropes are returned. -/
def Two (P : T → T → Prop) (w : World) (e : Ending) (w' : World) : Prop :=
  ∃ a pa b pb, P a b ∧ e = .returned (.tuple #[.agg #[.int .i64 a.count, .int .i64 a.total, .int .i64 a.depth, .pointer pa], .agg #[.int .i64 b.count, .int .i64 b.total, .int .i64 b.depth, .pointer pb]]) ∧ Nd w' a pa ∧ Nd w' b pb ∧ Below w.heap.size w w'

/-- two ropes in variables -/
structure TwoW (w : World) (g h : Nat) (a : T) (pa : Option Addr) (b : T) (pb : Option Addr) (W : World) : Prop where
  xa : W.heap[g]? = some (.cells (rc a.count a.total a.depth pa) 27 (0, 0))
  xb : W.heap[h]? = some (.cells (rc b.count b.total b.depth pb) 27 (0, 0))
  na : Nd W a pa
  nb : Nd W b pb
  u : Below w.heap.size w W
theorem room_of {W : World} {g : Nat} {c x d : Int} {p : Option Addr} (h : W.heap[g]? = some (.cells (rc c x d p) 27 (0, 0))) : Room W g := ⟨_, _, _, _, h⟩
theorem room_far {W : World} {g k : Nat} {a0 a1 a2 a3 : Value} (hk : k ≠ g) (h : Room W k) : Room ((((W.setCell ⟨g, 0, none⟩ a0).setCell ⟨g, 1, none⟩ a1).setCell ⟨g, 2, none⟩ a2).setCell ⟨g, 3, none⟩ a3) k := by
  obtain ⟨v0, v1, v2, v3, h⟩ := h
  exact ⟨v0, v1, v2, v3, far_set4 hk h⟩
theorem room_same {W : World} {g : Nat} {a0 a1 a2 a3 : Value} (h : Room W g) : Room ((((W.setCell ⟨g, 0, none⟩ a0).setCell ⟨g, 1, none⟩ a1).setCell ⟨g, 2, none⟩ a2).setCell ⟨g, 3, none⟩ a3) g := ⟨_, _, _, _, heap_set4 h⟩
theorem Room.drew {W : World} {g : Nat} (h : Room W g) : Room W.drew g := h
/-- both variables are written -/
theorem two_set {w W : World} {g h : Nat} {a b : T} {pa pb : Option Addr} (hgh : g ≠ h) (rg : Room W g) (rh : Room W h) (na : Nd W a pa) (nb : Nd W b pb) (hb : Below w.heap.size w W) (h1 : w.heap.size ≤ g) (h2 : w.heap.size ≤ h) :
    TwoW w g h a pa b pb ((((((((W.setCell ⟨g, 0, none⟩ (.int .i64 a.count)).setCell ⟨g, 1, none⟩ (.int .i64 a.total)).setCell ⟨g, 2, none⟩ (.int .i64 a.depth)).setCell ⟨g, 3, none⟩ (.pointer pa)).setCell ⟨h, 0, none⟩ (.int .i64 b.count)).setCell ⟨h, 1, none⟩ (.int .i64 b.total)).setCell ⟨h, 2, none⟩ (.int .i64 b.depth)).setCell ⟨h, 3, none⟩ (.pointer pb)) :=
  ⟨far_set4 hgh (heap_set4 rg), heap_set4 (room_far (Ne.symm hgh) rh), (na.set4 rg).set4 (room_far (Ne.symm hgh) rh), (nb.set4 rg).set4 (room_far (Ne.symm hgh) rh), below_set4 (below_set4 hb h1) h2⟩
theorem two_end {P : T → T → Prop} {w W : World} {g h : Nat} {a b : T} {pa pb : Option Addr} (hP : P a b) (hw : TwoW w g h a pa b pb W) :
    Two P w (.returned (.tuple #[.agg (rc a.count a.total a.depth pa), .agg (rc b.count b.total b.depth pb)])) W :=
  ⟨a, pa, b, pb, hP, rfl, hw.na, hw.nb, hw.u⟩

theorem sp_zero (t : T) (h : t.Bal) : Sp t 0 .nil t := ⟨by simp [T.list], by simp, trivial, h⟩
theorem sp_all (t : T) (h : t.Bal) : Sp t t.count t .nil := ⟨by rw [← T.len, List.take_length], by rw [← T.len, List.drop_length]; rfl, h, trivial⟩
theorem sp_left {l r a b u : T} {x : Int} {i : Nat} (hi : i ≤ l.count) (hk : Sp l i a b) (hu : Lk b x r u) : Sp (T.node l x r) i a u := by
  refine ⟨?_, ?_, hk.ba, hu.bal⟩
  · rw [hk.la, T.list, List.take_append_of_le_length (by rw [T.len]; exact hi)]
  · rw [hu.list, hk.lb, T.list, List.drop_append_of_le_length (by rw [T.len]; exact hi)]
theorem sp_right {l r a b u : T} {x : Int} {i : Nat} (hi : l.count < i) (hk : Sp r (i - l.count - 1) a b) (hu : Lk l x a u) : Sp (T.node l x r) i u b := by
  have e : i = l.list.length + (1 + (i - l.count - 1)) := by rw [T.len]; omega
  refine ⟨?_, ?_, hu.bal, hk.bb⟩
  · rw [hu.list, hk.la, T.list, e, List.take_length_add_append, Nat.add_comm 1, List.take_succ_cons]
    congr 3
    rw [T.len]; omega
  · rw [hk.lb, T.list, e, List.drop_length_add_append, Nat.add_comm 1, List.drop_succ_cons]
    congr 1
    rw [T.len]; omega
theorem split_ok2 {l r a : T} {x : Int} {i : Nat} (h : a.list = r.list.take i) (ho : Ok (T.node l x r).list) : Ok (l.list ++ x :: a.list) := by
  rw [h]
  exact ho.sub ((List.Sublist.refl _).append ((List.take_sublist _ _).cons_cons x))

theorem three_heap (w : World) (A B C : Obj) : (((w.alloc A).alloc B).alloc C).heap[w.heap.size + 1]? = some B ∧ (((w.alloc A).alloc B).alloc C).heap[w.heap.size + 1 + 1]? = some C :=
  ⟨(Below.heap_alloc _ _ _ (by simp)).trans (new_at _ (by simp)), new_at _ (by simp)⟩
theorem three_two {w : World} {a b : T} {pa pb : Option Addr} (A : Obj) (ha : Nd w a pa) (hb : Nd w b pb) :
    TwoW w (w.heap.size + 1) (w.heap.size + 1 + 1) a pa b pb (((w.alloc A).alloc (.cells (rc a.count a.total a.depth pa) 27)).alloc (.cells (rc b.count b.total b.depth pb) 27)) :=
  ⟨(three_heap w _ _ _).1, (three_heap w _ _ _).2, ha.below (below_three w _ _ _), hb.below (below_three w _ _ _), below_three w _ _ _⟩
theorem TwoW.drewN {w W : World} {g h : Nat} {a b : T} {pa pb : Option Addr} (n : Nat) (hw : TwoW w g h a pa b pb W) : TwoW w g h a pa b pb (W.drewN n) :=
  ⟨hw.xa, hw.xb, hw.na.drewN n, hw.nb.drewN n, ⟨hw.u.os, hw.u.tape, hw.u.output, hw.u.size, hw.u.block⟩⟩

theorem Nd.drew {w : World} {t : T} {p : Option Addr} (h : Nd w t p) : Nd w.drew t p := h.below (by exact ⟨rfl, rfl, rfl, Nat.le_refl _, fun _ _ => rfl⟩)
theorem split_ok {l r b : T} {x : Int} {i : Nat} (h : b.list = l.list.drop i) (ho : Ok (T.node l x r).list) : Ok (b.list ++ x :: r.list) := by
  rw [h]
  exact ho.sub ((List.drop_sublist _ _).append (List.Sublist.refl _))

set_option maxHeartbeats 1000000 in
theorem split_zero {t : T} {p : Option Addr} {w : World} (hn : Nd w t p) (hb : t.Bal) : Calls Try.prog 47 #[.agg #[.int .i64 t.count, .int .i64 t.total, .int .i64 t.depth, .pointer p], .int .i64 0] w (Two (Sp t 0) w) := by
  have HN := Lib.hid hn
  have HB := Lib.hid (sp_zero t hb)
  clear hn hb
  go_enter Try.func47, Try.ntmps47
  go_wp2_with fail
  go_region
  all_goals
    go_wp2_with fail
    have hw := TwoW.drewN 1 (three_two (w := w) (a := .nil) (b := t) (pa := none) (pb := p) (.cells #[.int .i64 t.count, .int .i64 t.total, .int .i64 t.depth, .pointer p] 27) rfl HN.out)
    exact bodyPost_ret (res_ropes rfl (g := w.heap.size + 1) (k := w.heap.size + 1 + 1) rfl rfl hw.xa hw.xb) rfl (two_end HB.out hw)

set_option maxHeartbeats 1000000 in
theorem split_all {t : T} {p : Option Addr} {w : World} (hn : Nd w t p) (hb : t.Bal) (h0 : 0 < t.count) : Calls Try.prog 47 #[.agg #[.int .i64 t.count, .int .i64 t.total, .int .i64 t.depth, .pointer p], .int .i64 t.count] w (Two (Sp t t.count) w) := by
  have HN := Lib.hid hn
  have HB := Lib.hid (sp_all t hb)
  have e0 : ((t.count : Int) == 0) = false := by simp; omega
  clear hn hb
  go_enter Try.func47, Try.ntmps47
  go_wp2_with fail
  have hw := three_two (w := w) (a := t) (b := .nil) (pa := p) (pb := none) (.cells #[.int .i64 t.count, .int .i64 t.total, .int .i64 t.depth, .pointer p] 27) HN.out rfl
  exact bodyPost_ret (res_ropes rfl (g := w.heap.size + 1) (k := w.heap.size + 1 + 1) rfl rfl hw.xa hw.xb) rfl (two_end HB.out hw)

/-- the contract of split for one tree -/
def SplitAt (t : T) : Prop := ∀ {i : Nat} {p : Option Addr} {w : World}, i ≤ t.count → Nd w t p → t.Bal → Ok t.list → Calls Try.prog 47 #[.agg #[.int .i64 t.count, .int .i64 t.total, .int .i64 t.depth, .pointer p], .int .i64 i] w (Two (Sp t i) w)
end Go.Proofs.Ytfkjnepafgehiaa
