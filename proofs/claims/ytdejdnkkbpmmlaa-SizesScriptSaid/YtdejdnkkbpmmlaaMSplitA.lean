/- The contract of split. -/
import Derived.Test.YtdejdnkkbpmmlaaMBalA
import Derived.Deep.RegionLaw
namespace Go.Proofs.Ytdejdnkkbpmmlaa
open Go.RowKit

/-- what link makes of two trees -/
structure Lk (a : T) (s : Int) (b : T) (t : T) : Prop where
  list : t.list = a.list ++ s :: b.list
  bal : t.Bal
  dep : t.depth = max a.depth b.depth ∨ t.depth = max a.depth b.depth + 1

/-- the left one is deeper -/
structure PreL (l : T) (x : Int) (t : T) : Prop where
  bl : l.Bal
  bt : t.Bal
  h1 : l.depth ≤ t.depth + 2
  h2 : t.depth ≤ l.depth + 2
  ok : Ok (l.list ++ x :: t.list)
theorem pre_left {l r b t : T} {x s : Int} (hb : (T.node l x r).Bal) (hd : b.depth + 1 < (T.node l x r).depth) (hk : Lk r s b t) (ho : Ok ((T.node l x r).list ++ s :: b.list)) : PreL l x t := by
  obtain ⟨a1, a2, a3, a4⟩ := hb
  have := hk.dep
  simp only [T.depth] at *
  refine ⟨a1, hk.bal, by omega, by omega, ?_⟩
  rw [hk.list]
  simpa [T.list] using ho
theorem lk_left {l r b t u : T} {x s : Int} (hb : (T.node l x r).Bal) (hd : b.depth + 1 < (T.node l x r).depth) (hk : Lk r s b t) (hu : Bl l x t u) : Lk (T.node l x r) s b u := by
  obtain ⟨a1, a2, a3, a4⟩ := hb
  have h1 := hk.dep
  have h2 := hu.dep
  refine ⟨by rw [hu.list, hk.list]; simp [T.list], hu.bal, ?_⟩
  unfold BalD at h2
  simp only [T.depth] at *
  omega
theorem pre_right {a l r t : T} {x s : Int} (hb : (T.node l x r).Bal) (hd : a.depth + 1 < (T.node l x r).depth) (hk : Lk a s l t) (ho : Ok (a.list ++ s :: (T.node l x r).list)) : PreL t x r := by
  obtain ⟨a1, a2, a3, a4⟩ := hb
  have := hk.dep
  simp only [T.depth] at *
  refine ⟨hk.bal, a2, by omega, by omega, ?_⟩
  rw [hk.list]
  simpa [T.list] using ho
theorem lk_right {a l r t u : T} {x s : Int} (hb : (T.node l x r).Bal) (hd : a.depth + 1 < (T.node l x r).depth) (hk : Lk a s l t) (hu : Bl t x r u) : Lk a s (T.node l x r) u := by
  obtain ⟨a1, a2, a3, a4⟩ := hb
  have h1 := hk.dep
  have h2 := hu.dep
  refine ⟨by rw [hu.list, hk.list]; simp [T.list], hu.bal, ?_⟩
  unfold BalD at h2
  simp only [T.depth] at *
  omega
theorem lk_near {a b : T} {s : Int} (ha : a.Bal) (hb : b.Bal) (h1 : ¬ b.depth + 1 < a.depth) (h2 : ¬ a.depth + 1 < b.depth) : Lk a s b (T.node a s b) :=
  ⟨rfl, ⟨ha, hb, by omega, by omega⟩, .inr rfl⟩

theorem below_three (w : World) (A B C : Obj) : Below w.heap.size w (((w.alloc A).alloc B).alloc C) :=
  (((Below.refl _ _).alloc (Nat.le_refl _) _).alloc (by simp) _).alloc (by simp; omega) _

/-- the contract of link, for trees that are not too deep -/
def LinkAt (n : Nat) : Prop := ∀ {a b : T} {s : Int} {pa pb : Option Addr} {w : World}, a.depth + b.depth ≤ n → Nd w a pa → Nd w b pb → a.Bal → b.Bal → Ok (a.list ++ s :: b.list) →
    Calls Try.prog 72 #[.agg #[.int .i64 a.count, .int .i64 a.total, .int .i64 a.depth, .pointer pa], .int .i64 s, .agg #[.int .i64 b.count, .int .i64 b.total, .int .i64 b.depth, .pointer pb]] w (Gives (Lk a s b) w)

set_option maxHeartbeats 2000000 in
theorem link_near {a b : T} {s : Int} {pa pb : Option Addr} {w : World} (ha : Nd w a pa) (hb : Nd w b pb) (ba : a.Bal) (bb : b.Bal) (h1 : ¬ b.depth + 1 < a.depth) (h2 : ¬ a.depth + 1 < b.depth) (ho : Ok (a.list ++ s :: b.list)) :
    Calls Try.prog 72 #[.agg #[.int .i64 a.count, .int .i64 a.total, .int .i64 a.depth, .pointer pa], .int .i64 s, .agg #[.int .i64 b.count, .int .i64 b.total, .int .i64 b.depth, .pointer pb]] w (Gives (Lk a s b) w) := by
  have d1 := (T.bounds ho.mid.1).2.2.2
  have d2 := (T.bounds ho.mid.2.1).2.2.2
  have e3 : decide ((1 : Int) < (a.depth : Int) - (b.depth : Int)) = false := by simp; omega
  have e4 : decide ((a.depth : Int) - (b.depth : Int) < -1) = false := by simp; omega
  have HK := Lib.hid (lk_near (s := s) ba bb h1 h2)
  have HA := Lib.hid ha
  have HB := Lib.hid hb
  have HO : Hid (Ok (T.node a s b).list) := Lib.hid ho
  have hB0 : Below w.heap.size w (((w.alloc (.cells (rc a.count a.total a.depth pa) 29)).alloc (.cells (rc b.count b.total b.depth pb) 29)).alloc (.cells #[.int .i64 0, .int .i64 0, .int .i64 0, .pointer none] 29)) := below_three w _ _ _
  have hR0 : Room (((w.alloc (.cells (rc a.count a.total a.depth pa) 29)).alloc (.cells (rc b.count b.total b.depth pb) 29)).alloc (.cells #[.int .i64 0, .int .i64 0, .int .i64 0, .pointer none] 29)) (w.heap.size + 1 + 1) := ⟨_, _, _, _, new_at _ (by simp)⟩
  clear ha hb ba bb h1 h2 ho
  go_enter Try.func72, Try.ntmps72
  go_wp2_with fail
  refine (build_any (HA.out.below hB0) (HB.out.below hB0) HO.out).mono ?_
  rintro e w3 ⟨_, p3, rfl, rfl, n3, kk⟩
  have hR3 := hR0.keep kk
  have hb3 := hB0.trans (kk.mono hB0.size)
  obtain ⟨v0, v1, v2, v3, f0, f1, f2, f3, f4, f5, f6, f7⟩ := hR3.open_
  go_wp2_with fail
  exact bodyPost_ret (res_rope rfl (g := w.heap.size + 1 + 1) rfl (heap_set4 hR3)) rfl (gives_set HK.out n3 hR3 (below_set4 hb3 (by omega)))

set_option maxHeartbeats 2000000 in
theorem link_left {n : Nat} (hi : LinkAt n) {l r b : T} {x s : Int} {pa pb : Option Addr} {w : World} (hn1 : (T.node l x r).depth + b.depth ≤ n + 1) (ha : Nd w (T.node l x r) pa) (hb : Nd w b pb) (ba : (T.node l x r).Bal) (bb : b.Bal)
    (h1 : b.depth + 1 < (T.node l x r).depth) (ho : Ok ((T.node l x r).list ++ s :: b.list)) :
    Calls Try.prog 72 #[.agg #[.int .i64 (T.node l x r).count, .int .i64 (T.node l x r).total, .int .i64 (T.node l x r).depth, .pointer pa], .int .i64 s, .agg #[.int .i64 b.count, .int .i64 b.total, .int .i64 b.depth, .pointer pb]] w (Gives (Lk (T.node l x r) s b) w) := by
  have d1 := (T.bounds ho.mid.1).2.2.2
  have d2 := (T.bounds ho.mid.2.1).2.2.2
  have e1 : (1 : Int) < ((T.node l x r).depth : Int) - (b.depth : Int) := by omega
  have PL : Hid (∀ t, Lk r s b t → PreL l x t) := Lib.hid (fun t hk => pre_left ba h1 hk ho)
  have LL : Hid (∀ t u, Lk r s b t → Bl l x t u → Lk (T.node l x r) s b u) := Lib.hid (fun t u hk hu => lk_left ba h1 hk hu)
  obtain ⟨g, pl, pr, rfl, hn, hl, hr⟩ := ha
  have HI : Hid (∀ W, Below w.heap.size w W → Calls Try.prog 72 #[.agg #[.int .i64 r.count, .int .i64 r.total, .int .i64 r.depth, .pointer pr], .int .i64 s, .agg #[.int .i64 b.count, .int .i64 b.total, .int .i64 b.depth, .pointer pb]] W (Gives (Lk r s b) W)) := Lib.hid (fun W hW =>
    hi (by simp only [T.depth] at hn1; omega) (hr.below hW) (hb.below hW) ba.2.1 bb (by
      have : Ok (l.list ++ (x :: (r.list ++ s :: b.list))) := by simpa [T.list] using ho
      exact this.app.2.sub (List.sublist_cons_self _ _)))
  obtain ⟨i0, i1, i2, i3, i4, i5, i6, i7, i8⟩ := nd_cells hn
  have kg := heap_lt hn
  have HL := Lib.hid hl
  have hB0 : Below w.heap.size w (((w.alloc (.cells (rc (T.node l x r).count (T.node l x r).total (T.node l x r).depth (some ⟨g, 0, none⟩)) 29)).alloc (.cells (rc b.count b.total b.depth pb) 29)).alloc (.cells #[.int .i64 0, .int .i64 0, .int .i64 0, .pointer none] 29)) := below_three w _ _ _
  have hR0 : Room (((w.alloc (.cells (rc (T.node l x r).count (T.node l x r).total (T.node l x r).depth (some ⟨g, 0, none⟩)) 29)).alloc (.cells (rc b.count b.total b.depth pb) 29)).alloc (.cells #[.int .i64 0, .int .i64 0, .int .i64 0, .pointer none] 29)) (w.heap.size + 1 + 1) := ⟨_, _, _, _, new_at _ (by simp)⟩
  clear hb ba bb h1 ho hn hl hr hn1 hi
  go_enter Try.func72, Try.ntmps72
  go_wp2_with fail
  go_region_held3 (fun W => Below w.heap.size w W ∧ Room W (w.heap.size + 1 + 1) ∧ W.cell? ⟨g, 0, none⟩ = some (.int .i64 l.count) ∧ W.cell? ⟨g, 1, none⟩ = some (.int .i64 l.total) ∧ W.cell? ⟨g, 2, none⟩ = some (.int .i64 l.depth) ∧ W.cell? ⟨g, 3, none⟩ = some (.pointer pl) ∧ W.cell? ⟨g, 4, none⟩ = some (.int .i64 x) ∧ W.cell? ⟨g, 5, none⟩ = some (.int .i64 r.count) ∧ W.cell? ⟨g, 6, none⟩ = some (.int .i64 r.total) ∧ W.cell? ⟨g, 7, none⟩ = some (.int .i64 r.depth) ∧ W.cell? ⟨g, 8, none⟩ = some (.pointer pr) ∧ W.cell? ⟨w.heap.size + 1, 0, none⟩ = some (.int .i64 b.count) ∧ W.cell? ⟨w.heap.size + 1, 1, none⟩ = some (.int .i64 b.total) ∧ W.cell? ⟨w.heap.size + 1, 2, none⟩ = some (.int .i64 b.depth) ∧ W.cell? ⟨w.heap.size + 1, 3, none⟩ = some (.pointer pb))
    (first
      | (refine ⟨hB0.drew, hR0, ?_, ?_, ?_, ?_, ?_, ?_, ?_, ?_, ?_, ?_, ?_, ?_, ?_⟩ <;> first | assumption | exact keep_of hB0.drew (by assumption) | simp [go_sem])
      | (have hS := ‹Below w.heap.size w _ ∧ Room _ _ ∧ _›; refine ⟨hS.1.trans (kk.mono hS.1.size), hS.2.1.keep kk, ?_, ?_, ?_, ?_, ?_, ?_, ?_, ?_, ?_, ?_, ?_, ?_, ?_⟩ <;> exact keep_of kk (by simp only [hS]))
      | (have hS := ‹Below w.heap.size w _ ∧ Room _ _ ∧ _›; refine ⟨below_set4 hS.1 (by omega), ⟨_, _, _, _, heap_set4 hS.2.1⟩, ?_, ?_, ?_, ?_, ?_, ?_, ?_, ?_, ?_, ?_, ?_, ?_, ?_⟩ <;> exact cell_set4 (by simp <;> omega) (by simp only [hS])))
    (first
      | (go_at_call 72; refine (HI.out _ ?_).mono ?_; (exact (‹Below w.heap.size w _ ∧ _›).1); rintro e w1 ⟨t1, p1, k1, rfl, n1, kk⟩; have PP := PL.out t1 k1)
      | (go_at_call 73; refine (balance_any ?_ n1 PP.bl PP.bt PP.h1 PP.h2 PP.ok).mono ?_; (exact HL.out.below (‹Below w.heap.size w _ ∧ _›).1); rintro e w3 ⟨t3, p3, k3, rfl, n3, kk⟩; have hR3 := (‹Below w.heap.size w _ ∧ Room _ _ ∧ _›).2.1.keep kk; obtain ⟨v0, v1, v2, v3, c0, c1, c2, c3, f0, f1, f2, f3⟩ := hR3.open_))
  go_wp2_with fail
  exact bodyPost_ret (res_rope rfl (g := w.heap.size + 1 + 1) rfl (heap_set4 hR3)) rfl (gives_set (LL.out t1 t3 k1 k3) n3 hR3 (‹Below w.heap.size w _ ∧ _›).1)

set_option maxHeartbeats 2000000 in
theorem link_right {n : Nat} (hi : LinkAt n) {a l r : T} {x s : Int} {pa pb : Option Addr} {w : World} (hn1 : a.depth + (T.node l x r).depth ≤ n + 1) (ha : Nd w a pa) (hb : Nd w (T.node l x r) pb) (ba : a.Bal) (bb : (T.node l x r).Bal)
    (h1 : a.depth + 1 < (T.node l x r).depth) (ho : Ok (a.list ++ s :: (T.node l x r).list)) :
    Calls Try.prog 72 #[.agg #[.int .i64 a.count, .int .i64 a.total, .int .i64 a.depth, .pointer pa], .int .i64 s, .agg #[.int .i64 (T.node l x r).count, .int .i64 (T.node l x r).total, .int .i64 (T.node l x r).depth, .pointer pb]] w (Gives (Lk a s (T.node l x r)) w) := by
  have d1 := (T.bounds ho.mid.1).2.2.2
  have d2 := (T.bounds ho.mid.2.1).2.2.2
  have e1 : (a.depth : Int) - ((T.node l x r).depth : Int) < -1 := by omega
  have e3 : decide ((1 : Int) < (a.depth : Int) - ((T.node l x r).depth : Int)) = false := by simp; omega
  have PL : Hid (∀ t, Lk a s l t → PreL t x r) := Lib.hid (fun t hk => pre_right bb h1 hk ho)
  have LL : Hid (∀ t u, Lk a s l t → Bl t x r u → Lk a s (T.node l x r) u) := Lib.hid (fun t u hk hu => lk_right bb h1 hk hu)
  obtain ⟨g, pl, pr, rfl, hn, hl, hr⟩ := hb
  have HI : Hid (∀ W, Below w.heap.size w W → Calls Try.prog 72 #[.agg #[.int .i64 a.count, .int .i64 a.total, .int .i64 a.depth, .pointer pa], .int .i64 s, .agg #[.int .i64 l.count, .int .i64 l.total, .int .i64 l.depth, .pointer pl]] W (Gives (Lk a s l) W)) := Lib.hid (fun W hW =>
    hi (by simp only [T.depth] at hn1; omega) (ha.below hW) (hl.below hW) ba bb.1 (by
      have : Ok ((a.list ++ s :: l.list) ++ (x :: r.list)) := by simpa [T.list] using ho
      exact this.app.1))
  obtain ⟨i0, i1, i2, i3, i4, i5, i6, i7, i8⟩ := nd_cells hn
  have kg := heap_lt hn
  have HR := Lib.hid hr
  have hB0 : Below w.heap.size w (((w.alloc (.cells (rc a.count a.total a.depth pa) 29)).alloc (.cells (rc (T.node l x r).count (T.node l x r).total (T.node l x r).depth (some ⟨g, 0, none⟩)) 29)).alloc (.cells #[.int .i64 0, .int .i64 0, .int .i64 0, .pointer none] 29)) := below_three w _ _ _
  have hR0 : Room (((w.alloc (.cells (rc a.count a.total a.depth pa) 29)).alloc (.cells (rc (T.node l x r).count (T.node l x r).total (T.node l x r).depth (some ⟨g, 0, none⟩)) 29)).alloc (.cells #[.int .i64 0, .int .i64 0, .int .i64 0, .pointer none] 29)) (w.heap.size + 1 + 1) := ⟨_, _, _, _, new_at _ (by simp)⟩
  clear ha ba bb h1 ho hn hl hr hn1 hi
  go_enter Try.func72, Try.ntmps72
  go_wp2_with fail
  go_region_held3 (fun W => Below w.heap.size w W ∧ Room W (w.heap.size + 1 + 1) ∧ W.cell? ⟨g, 0, none⟩ = some (.int .i64 l.count) ∧ W.cell? ⟨g, 1, none⟩ = some (.int .i64 l.total) ∧ W.cell? ⟨g, 2, none⟩ = some (.int .i64 l.depth) ∧ W.cell? ⟨g, 3, none⟩ = some (.pointer pl) ∧ W.cell? ⟨g, 4, none⟩ = some (.int .i64 x) ∧ W.cell? ⟨g, 5, none⟩ = some (.int .i64 r.count) ∧ W.cell? ⟨g, 6, none⟩ = some (.int .i64 r.total) ∧ W.cell? ⟨g, 7, none⟩ = some (.int .i64 r.depth) ∧ W.cell? ⟨g, 8, none⟩ = some (.pointer pr) ∧ W.cell? ⟨w.heap.size, 0, none⟩ = some (.int .i64 a.count) ∧ W.cell? ⟨w.heap.size, 1, none⟩ = some (.int .i64 a.total) ∧ W.cell? ⟨w.heap.size, 2, none⟩ = some (.int .i64 a.depth) ∧ W.cell? ⟨w.heap.size, 3, none⟩ = some (.pointer pa))
    (first
      | (refine ⟨hB0.drew, hR0, ?_, ?_, ?_, ?_, ?_, ?_, ?_, ?_, ?_, ?_, ?_, ?_, ?_⟩ <;> first | assumption | exact keep_of hB0.drew (by assumption) | simp [go_sem])
      | (have hS := ‹Below w.heap.size w _ ∧ Room _ _ ∧ _›; refine ⟨hS.1.trans (kk.mono hS.1.size), hS.2.1.keep kk, ?_, ?_, ?_, ?_, ?_, ?_, ?_, ?_, ?_, ?_, ?_, ?_, ?_⟩ <;> exact keep_of kk (by simp only [hS]))
      | (have hS := ‹Below w.heap.size w _ ∧ Room _ _ ∧ _›; refine ⟨below_set4 hS.1 (by omega), ⟨_, _, _, _, heap_set4 hS.2.1⟩, ?_, ?_, ?_, ?_, ?_, ?_, ?_, ?_, ?_, ?_, ?_, ?_, ?_⟩ <;> exact cell_set4 (by simp <;> omega) (by simp only [hS])))
    (first
      | (go_at_call 72; refine (HI.out _ ?_).mono ?_; (exact (‹Below w.heap.size w _ ∧ _›).1); rintro e w1 ⟨t1, p1, k1, rfl, n1, kk⟩; have PP := PL.out t1 k1)
      | (go_at_call 73; refine (balance_any n1 ?_ PP.bl PP.bt PP.h1 PP.h2 PP.ok).mono ?_; (exact HR.out.below (‹Below w.heap.size w _ ∧ _›).1); rintro e w3 ⟨t3, p3, k3, rfl, n3, kk⟩; have hR3 := (‹Below w.heap.size w _ ∧ Room _ _ ∧ _›).2.1.keep kk; obtain ⟨v0, v1, v2, v3, c0, c1, c2, c3, f0, f1, f2, f3⟩ := hR3.open_))
  go_wp2_with fail
  exact bodyPost_ret (res_rope rfl (g := w.heap.size + 1 + 1) rfl (heap_set4 hR3)) rfl (gives_set (LL.out t1 t3 k1 k3) n3 hR3 (‹Below w.heap.size w _ ∧ _›).1)

theorem link_at (n : Nat) : LinkAt n := by
  induction n with
  | zero =>
    intro a b s pa pb w h ha hb ba bb ho
    exact link_near ha hb ba bb (by omega) (by omega) ho
  | succ n ih =>
    intro a b s pa pb w h ha hb ba bb ho
    by_cases h1 : b.depth + 1 < a.depth
    · obtain ⟨l, x, r, rfl⟩ := T.depth_pos (t := a) (by omega)
      exact link_left ih h ha hb ba bb h1 ho
    · by_cases h2 : a.depth + 1 < b.depth
      · obtain ⟨l, x, r, rfl⟩ := T.depth_pos (t := b) (by omega)
        exact link_right ih h ha hb ba bb h2 ho
      · exact link_near ha hb ba bb h1 h2 ho
theorem link_any {a b : T} {s : Int} {pa pb : Option Addr} {w : World} (ha : Nd w a pa) (hb : Nd w b pb) (ba : a.Bal) (bb : b.Bal) (ho : Ok (a.list ++ s :: b.list)) :
    Calls Try.prog 72 #[.agg #[.int .i64 a.count, .int .i64 a.total, .int .i64 a.depth, .pointer pa], .int .i64 s, .agg #[.int .i64 b.count, .int .i64 b.total, .int .i64 b.depth, .pointer pb]] w (Gives (Lk a s b) w) := link_at _ (Nat.le_refl _) ha hb ba bb ho
end Go.Proofs.Ytdejdnkkbpmmlaa

namespace Go.Proofs.Ytdejdnkkbpmmlaa
open Go.RowKit

/-- what split makes of a tree -/
structure Sp (t : T) (i : Nat) (a b : T) : Prop where
  la : a.list = t.list.take i
  lb : b.list = t.list.drop i
  ba : a.Bal
  bb : b.Bal
/-- Two ropes are returned. -/
def Two (P : T → T → Prop) (w : World) (e : Ending) (w' : World) : Prop :=
  ∃ a pa b pb, P a b ∧ e = .returned (.tuple #[.agg #[.int .i64 a.count, .int .i64 a.total, .int .i64 a.depth, .pointer pa], .agg #[.int .i64 b.count, .int .i64 b.total, .int .i64 b.depth, .pointer pb]]) ∧ Nd w' a pa ∧ Nd w' b pb ∧ Below w.heap.size w w'

/-- two ropes in variables -/
structure TwoW (w : World) (g h : Nat) (a : T) (pa : Option Addr) (b : T) (pb : Option Addr) (W : World) : Prop where
  xa : W.heap[g]? = some (.cells (rc a.count a.total a.depth pa) 29 (0, 0))
  xb : W.heap[h]? = some (.cells (rc b.count b.total b.depth pb) 29 (0, 0))
  na : Nd W a pa
  nb : Nd W b pb
  u : Below w.heap.size w W
theorem room_of {W : World} {g : Nat} {c x d : Int} {p : Option Addr} (h : W.heap[g]? = some (.cells (rc c x d p) 29 (0, 0))) : Room W g := ⟨_, _, _, _, h⟩
theorem room_far {W : World} {g k : Nat} {a0 a1 a2 a3 : Value} (hk : k ≠ g) (h : Room W k) : Room ((((W.setCell ⟨g, 0, none⟩ a0).setCell ⟨g, 1, none⟩ a1).setCell ⟨g, 2, none⟩ a2).setCell ⟨g, 3, none⟩ a3) k := by
  obtain ⟨v0, v1, v2, v3, h⟩ := h
  exact ⟨v0, v1, v2, v3, far_set4 hk h⟩
theorem room_same {W : World} {g : Nat} {a0 a1 a2 a3 : Value} (h : Room W g) : Room ((((W.setCell ⟨g, 0, none⟩ a0).setCell ⟨g, 1, none⟩ a1).setCell ⟨g, 2, none⟩ a2).setCell ⟨g, 3, none⟩ a3) g := ⟨_, _, _, _, heap_set4 h⟩
theorem Room.drew {W : World} {g : Nat} (h : Room W g) : Room W.drew g := h
/-- both variables are written -/
theorem two_set {w W : World} {g h : Nat} {a b : T} {pa pb : Option Addr} (hgh : g ≠ h) (rg : Room W g) (rh : Room W h) (na : Nd W a pa) (nb : Nd W b pb) (hb : Below w.heap.size w W) (h1 : w.heap.size ≤ g) (h2 : w.heap.size ≤ h) :
    TwoW w g h a pa b pb ((((((((W.setCell ⟨g, 0, none⟩ (.int .i64 a.count)).setCell ⟨g, 1, none⟩ (.int .i64 a.total)).setCell ⟨g, 2, none⟩ (.int .i64 a.depth)).setCell ⟨g, 3, none⟩ (.pointer pa)).setCell ⟨h, 0, none⟩ (.int .i64 b.count)).setCell ⟨h, 1, none⟩ (.int .i64 b.total)).setCell ⟨h, 2, none⟩ (.int .i64 b.depth)).setCell ⟨h, 3, none⟩ (.pointer pb)) :=
  ⟨far_set4 hgh (heap_set4 rg), heap_set4 (room_far (Ne.symm hgh) rh), (na.set4 rg).set4 (room_far (Ne.symm hgh) rh), (nb.set4 rg).set4 (room_far (Ne.symm hgh) rh), below_set4 (below_set4 hb h1) h2⟩
theorem two_end {P : T → T → Prop} {w W : World} {g h : Nat} {a b : T} {pa pb : Option Addr} (hP : P a b) (hw : TwoW w g h a pa b pb W) :
    Two P w (.returned (.tuple #[.agg (rc a.count a.total a.depth pa), .agg (rc b.count b.total b.depth pb)])) W :=
  ⟨a, pa, b, pb, hP, rfl, hw.na, hw.nb, hw.u⟩

theorem sp_zero (t : T) (h : t.Bal) : Sp t 0 .nil t := ⟨by simp [T.list], by simp, trivial, h⟩
theorem sp_all (t : T) (h : t.Bal) : Sp t t.count t .nil := ⟨by rw [← T.len, List.take_length], by rw [← T.len, List.drop_length]; rfl, h, trivial⟩
theorem sp_left {l r a b u : T} {x : Int} {i : Nat} (hi : i ≤ l.count) (hk : Sp l i a b) (hu : Lk b x r u) : Sp (T.node l x r) i a u := by
  refine ⟨?_, ?_, hk.ba, hu.bal⟩
  · rw [hk.la, T.list, List.take_append_of_le_length (by rw [T.len]; exact hi)]
  · rw [hu.list, hk.lb, T.list, List.drop_append_of_le_length (by rw [T.len]; exact hi)]
theorem sp_right {l r a b u : T} {x : Int} {i : Nat} (hi : l.count < i) (hk : Sp r (i - l.count - 1) a b) (hu : Lk l x a u) : Sp (T.node l x r) i u b := by
  have e : i = l.list.length + (1 + (i - l.count - 1)) := by rw [T.len]; omega
  refine ⟨?_, ?_, hu.bal, hk.bb⟩
  · rw [hu.list, hk.la, T.list, e, List.take_length_add_append, Nat.add_comm 1, List.take_succ_cons]
    congr 3
    rw [T.len]; omega
  · rw [hk.lb, T.list, e, List.drop_length_add_append, Nat.add_comm 1, List.drop_succ_cons]
    congr 1
    rw [T.len]; omega
theorem split_ok2 {l r a : T} {x : Int} {i : Nat} (h : a.list = r.list.take i) (ho : Ok (T.node l x r).list) : Ok (l.list ++ x :: a.list) := by
  rw [h]
  exact ho.sub ((List.Sublist.refl _).append ((List.take_sublist _ _).cons_cons x))

theorem three_heap (w : World) (A B C : Obj) : (((w.alloc A).alloc B).alloc C).heap[w.heap.size + 1]? = some B ∧ (((w.alloc A).alloc B).alloc C).heap[w.heap.size + 1 + 1]? = some C :=
  ⟨(Below.heap_alloc _ _ _ (by simp)).trans (new_at _ (by simp)), new_at _ (by simp)⟩
theorem three_two {w : World} {a b : T} {pa pb : Option Addr} (A : Obj) (ha : Nd w a pa) (hb : Nd w b pb) :
    TwoW w (w.heap.size + 1) (w.heap.size + 1 + 1) a pa b pb (((w.alloc A).alloc (.cells (rc a.count a.total a.depth pa) 29)).alloc (.cells (rc b.count b.total b.depth pb) 29)) :=
  ⟨(three_heap w _ _ _).1, (three_heap w _ _ _).2, ha.below (below_three w _ _ _), hb.below (below_three w _ _ _), below_three w _ _ _⟩
theorem TwoW.drewN {w W : World} {g h : Nat} {a b : T} {pa pb : Option Addr} (n : Nat) (hw : TwoW w g h a pa b pb W) : TwoW w g h a pa b pb (W.drewN n) :=
  ⟨hw.xa, hw.xb, hw.na.drewN n, hw.nb.drewN n, ⟨hw.u.os, hw.u.tape, hw.u.output, hw.u.size, hw.u.block⟩⟩

theorem Nd.drew {w : World} {t : T} {p : Option Addr} (h : Nd w t p) : Nd w.drew t p := h.below (by exact ⟨rfl, rfl, rfl, Nat.le_refl _, fun _ _ => rfl⟩)
theorem split_ok {l r b : T} {x : Int} {i : Nat} (h : b.list = l.list.drop i) (ho : Ok (T.node l x r).list) : Ok (b.list ++ x :: r.list) := by
  rw [h]
  exact ho.sub ((List.drop_sublist _ _).append (List.Sublist.refl _))

set_option maxHeartbeats 1000000 in
theorem split_zero {t : T} {p : Option Addr} {w : World} (hn : Nd w t p) (hb : t.Bal) : Calls Try.prog 66 #[.agg #[.int .i64 t.count, .int .i64 t.total, .int .i64 t.depth, .pointer p], .int .i64 0] w (Two (Sp t 0) w) := by
  have HN := Lib.hid hn
  have HB := Lib.hid (sp_zero t hb)
  clear hn hb
  go_enter Try.func66, Try.ntmps66
  go_wp2_with fail
  go_region
  all_goals
    go_wp2_with fail
    have hw := TwoW.drewN 1 (three_two (w := w) (a := .nil) (b := t) (pa := none) (pb := p) (.cells #[.int .i64 t.count, .int .i64 t.total, .int .i64 t.depth, .pointer p] 29) rfl HN.out)
    exact bodyPost_ret (res_ropes rfl (g := w.heap.size + 1) (k := w.heap.size + 1 + 1) rfl rfl hw.xa hw.xb) rfl (two_end HB.out hw)

set_option maxHeartbeats 1000000 in
theorem split_all {t : T} {p : Option Addr} {w : World} (hn : Nd w t p) (hb : t.Bal) (h0 : 0 < t.count) : Calls Try.prog 66 #[.agg #[.int .i64 t.count, .int .i64 t.total, .int .i64 t.depth, .pointer p], .int .i64 t.count] w (Two (Sp t t.count) w) := by
  have HN := Lib.hid hn
  have HB := Lib.hid (sp_all t hb)
  have e0 : ((t.count : Int) == 0) = false := by simp; omega
  clear hn hb
  go_enter Try.func66, Try.ntmps66
  go_wp2_with fail
  have hw := three_two (w := w) (a := t) (b := .nil) (pa := p) (pb := none) (.cells #[.int .i64 t.count, .int .i64 t.total, .int .i64 t.depth, .pointer p] 29) HN.out rfl
  exact bodyPost_ret (res_ropes rfl (g := w.heap.size + 1) (k := w.heap.size + 1 + 1) rfl rfl hw.xa hw.xb) rfl (two_end HB.out hw)

/-- the contract of split for one tree -/
def SplitAt (t : T) : Prop := ∀ {i : Nat} {p : Option Addr} {w : World}, i ≤ t.count → Nd w t p → t.Bal → Ok t.list → Calls Try.prog 66 #[.agg #[.int .i64 t.count, .int .i64 t.total, .int .i64 t.depth, .pointer p], .int .i64 i] w (Two (Sp t i) w)
end Go.Proofs.Ytdejdnkkbpmmlaa

namespace Go.Proofs.Ytdejdnkkbpmmlaa
open Go.RowKit

set_option maxHeartbeats 4000000 in
theorem split_left {l r : T} {x : Int} (hi : SplitAt l) {i : Nat} {p : Option Addr} {w : World} (h0 : 0 < i) (h1 : i ≤ l.count) (hn : Nd w (T.node l x r) p) (hb : (T.node l x r).Bal) (ho : Ok (T.node l x r).list) :
    Calls Try.prog 66 #[.agg #[.int .i64 (T.node l x r).count, .int .i64 (T.node l x r).total, .int .i64 (T.node l x r).depth, .pointer p], .int .i64 i] w (Two (Sp (T.node l x r) i) w) := by
  have d1 := (T.bounds ho).2.2.1
  obtain ⟨o1, o2, o3⟩ := T.parts ho
  have d2 := (T.bounds o1).2.2.1
  have e0 : ((i : Int) == 0) = false := by simp; omega
  have e1 : ((i : Int) == ((T.node l x r).count : Int)) = false := by simp only [T.count]; simp; omega
  obtain ⟨g, pl, pr, rfl, hn, hl, hr⟩ := hn
  have HI : Hid (∀ W, Below w.heap.size w W → Calls Try.prog 66 #[.agg #[.int .i64 l.count, .int .i64 l.total, .int .i64 l.depth, .pointer pl], .int .i64 i] W (Two (Sp l i) W)) := Lib.hid (fun W hW => hi h1 (hl.below hW) hb.1 o1)
  have kg := heap_lt hn
  have HR := Lib.hid hr
  have HBR := Lib.hid hb.2.1
  have HBL := Lib.hid hb.1
  have HO := Lib.hid ho
  have hB0 : Below w.heap.size w (((w.alloc (.cells #[.int .i64 (T.node l x r).count, .int .i64 (T.node l x r).total, .int .i64 (T.node l x r).depth, .pointer (some ⟨g, 0, none⟩)] 29)).alloc (.cells #[.int .i64 0, .int .i64 0, .int .i64 0, .pointer none] 29)).alloc (.cells #[.int .i64 0, .int .i64 0, .int .i64 0, .pointer none] 29)) := below_three w _ _ _
  have hR1 : Room (((w.alloc (.cells #[.int .i64 (T.node l x r).count, .int .i64 (T.node l x r).total, .int .i64 (T.node l x r).depth, .pointer (some ⟨g, 0, none⟩)] 29)).alloc (.cells #[.int .i64 0, .int .i64 0, .int .i64 0, .pointer none] 29)).alloc (.cells #[.int .i64 0, .int .i64 0, .int .i64 0, .pointer none] 29)) (w.heap.size + 1) := ⟨_, _, _, _, (three_heap w _ _ _).1⟩
  have hR2 : Room (((w.alloc (.cells #[.int .i64 (T.node l x r).count, .int .i64 (T.node l x r).total, .int .i64 (T.node l x r).depth, .pointer (some ⟨g, 0, none⟩)] 29)).alloc (.cells #[.int .i64 0, .int .i64 0, .int .i64 0, .pointer none] 29)).alloc (.cells #[.int .i64 0, .int .i64 0, .int .i64 0, .pointer none] 29)) (w.heap.size + 1 + 1) := ⟨_, _, _, _, (three_heap w _ _ _).2⟩
  obtain ⟨i0, i1, i2, i3, i4, i5, i6, i7, i8⟩ := nd_cells (keep_heap hB0 hn)
  have HN := Lib.hid hn
  clear hn hl hr hb ho hi o1 o2 o3
  go_enter Try.func66, Try.ntmps66
  go_wp2_with fail
  refine (HI.out _ hB0).mono ?_
  rintro e w1 ⟨a, pa, b, pb, k1, rfl, na, nb, kk⟩
  have R1 := hR1.keep kk
  have R2 := hR2.keep kk
  have hb1 := hB0.trans (kk.mono hB0.size)
  obtain ⟨v0, v1, v2, v3, f0, f1, f2, f3, f4, f5, f6, f7⟩ := R1.open_
  obtain ⟨v0', v1', v2', v3', f0', f1', f2', f3', f4', f5', f6', f7'⟩ := R2.open_
  go_wp2_with fail
  obtain ⟨W, HW, hW⟩ : ∃ W, TwoW w (w.heap.size + 1) (w.heap.size + 1 + 1) a pa b pb W ∧ W = _ := ⟨_, two_set (by omega) R1 R2 na nb hb1 (by omega) (by omega), rfl⟩
  rw [← hW]
  clear hW i0 i1 i2 i3 i4 i5 i6 i7 i8 f0 f1 f2 f3 f4 f5 f6 f7 f0' f1' f2' f3' f4' f5' f6' f7' kk R1 R2 hR1 hR2 hB0 hb1
  obtain ⟨a0, a1, a2, a3⟩ := rc_cells HW.xa
  obtain ⟨b0, b1, b2, b3⟩ := rc_cells HW.xb
  obtain ⟨i0, i1, i2, i3, i4, i5, i6, i7, i8⟩ := nd_cells (keep_heap HW.u HN.out)
  have HT := Lib.hid HW
  clear HW
  go_region_with (first
    | (go_at_call 72; ((with_reducible refine (link_any ?_ ?_ k1.bb HBR.out ?_).mono ?_)); (exact HT.out.nb.drew); (exact (HR.out.below HT.out.u).drew); (exact split_ok k1.lb HO.out); rintro e w3 ⟨u, pu, k3, rfl, n3, kk⟩; have a0' := keep_of kk a0; have a1' := keep_of kk a1; have a2' := keep_of kk a2; have a3' := keep_of kk a3; have R1 := Room.keep (w0 := W.drew) (room_of HT.out.xa) kk; have R2 := Room.keep (w0 := W.drew) (room_of HT.out.xb) kk; obtain ⟨v0, v1, v2, v3, f0, f1, f2, f3, f4, f5, f6, f7⟩ := R1.open_; obtain ⟨v0', v1', v2', v3', f0', f1', f2', f3', f4', f5', f6', f7'⟩ := R2.open_))
  all_goals
    go_wp2_with fail
    have hw := two_set (a := a) (b := u) (pa := pa) (pb := pu) (by omega) R1 R2 (HT.out.na.drew.below kk) n3 (HT.out.u.drew.trans (kk.mono HT.out.u.size)) (show w.heap.size ≤ w.heap.size + 1 by omega) (show w.heap.size ≤ w.heap.size + 1 + 1 by omega)
    exact bodyPost_ret (res_ropes rfl (g := w.heap.size + 1) (k := w.heap.size + 1 + 1) rfl rfl hw.xa hw.xb) rfl (two_end (sp_left h1 k1 k3) hw)
end Go.Proofs.Ytdejdnkkbpmmlaa

namespace Go.Proofs.Ytdejdnkkbpmmlaa
open Go.RowKit

set_option maxHeartbeats 8000000 in
theorem split_right {l r : T} {x : Int} (hi : SplitAt r) {i : Nat} {p : Option Addr} {w : World} (h1 : l.count < i) (h2 : i < (T.node l x r).count) (hn : Nd w (T.node l x r) p) (hb : (T.node l x r).Bal) (ho : Ok (T.node l x r).list) :
    Calls Try.prog 66 #[.agg #[.int .i64 (T.node l x r).count, .int .i64 (T.node l x r).total, .int .i64 (T.node l x r).depth, .pointer p], .int .i64 i] w (Two (Sp (T.node l x r) i) w) := by
  have d1 := (T.bounds ho).2.2.1
  obtain ⟨o1, o2, o3⟩ := T.parts ho
  have d2 := (T.bounds o1).2.2.1
  have e0 : ((i : Int) == 0) = false := by simp; omega
  have e1 : ((i : Int) == ((T.node l x r).count : Int)) = false := by simp; omega
  have e2 : decide (i ≤ l.count) = false := by simp; omega
  obtain ⟨g, pl, pr, rfl, hn, hl, hr⟩ := hn
  have HI : Hid (∀ W, Below w.heap.size w W → Calls Try.prog 66 #[.agg #[.int .i64 r.count, .int .i64 r.total, .int .i64 r.depth, .pointer pr], .int .i64 ((i : Int) - (l.count : Int) - 1)] W (Two (Sp r (i - l.count - 1)) W)) := Lib.hid (fun W hW => by
    rw [show (i : Int) - (l.count : Int) - 1 = ((i - l.count - 1 : Nat) : Int) by omega]
    exact hi (by simp only [T.count] at h2; omega) (hr.below hW) hb.2.1 o2)
  have kg := heap_lt hn
  have HL := Lib.hid hl
  have HBR := Lib.hid hb.2.1
  have HBL := Lib.hid hb.1
  have HO := Lib.hid ho
  have hB0 : Below w.heap.size w (((w.alloc (.cells #[.int .i64 (T.node l x r).count, .int .i64 (T.node l x r).total, .int .i64 (T.node l x r).depth, .pointer (some ⟨g, 0, none⟩)] 29)).alloc (.cells #[.int .i64 0, .int .i64 0, .int .i64 0, .pointer none] 29)).alloc (.cells #[.int .i64 0, .int .i64 0, .int .i64 0, .pointer none] 29)) := below_three w _ _ _
  have hR1 : Room (((w.alloc (.cells #[.int .i64 (T.node l x r).count, .int .i64 (T.node l x r).total, .int .i64 (T.node l x r).depth, .pointer (some ⟨g, 0, none⟩)] 29)).alloc (.cells #[.int .i64 0, .int .i64 0, .int .i64 0, .pointer none] 29)).alloc (.cells #[.int .i64 0, .int .i64 0, .int .i64 0, .pointer none] 29)) (w.heap.size + 1) := ⟨_, _, _, _, (three_heap w _ _ _).1⟩
  have hR2 : Room (((w.alloc (.cells #[.int .i64 (T.node l x r).count, .int .i64 (T.node l x r).total, .int .i64 (T.node l x r).depth, .pointer (some ⟨g, 0, none⟩)] 29)).alloc (.cells #[.int .i64 0, .int .i64 0, .int .i64 0, .pointer none] 29)).alloc (.cells #[.int .i64 0, .int .i64 0, .int .i64 0, .pointer none] 29)) (w.heap.size + 1 + 1) := ⟨_, _, _, _, (three_heap w _ _ _).2⟩
  obtain ⟨i0, i1, i2, i3, i4, i5, i6, i7, i8⟩ := nd_cells (keep_heap hB0 hn)
  obtain ⟨j0, j1, j2, j3, j4, j5, j6, j7, j8⟩ := nd_cells (keep_heap hB0.drew hn)
  have HN := Lib.hid hn
  have s1 : IntKind.i64.wrap ((i : Int) - (l.count : Int)) = (i : Int) - (l.count : Int) := IntWalk.i64_in _ (by omega)
  have s2 : IntKind.i64.wrap ((i : Int) - (l.count : Int) - 1) = (i : Int) - (l.count : Int) - 1 := IntWalk.i64_in _ (by omega)
  have H1 := Lib.hid h1
  clear hn hl hr hb ho hi o1 o2 o3 h1 h2 d1 d2
  go_enter Try.func66, Try.ntmps66
  go_upto_region 10 with fail
  go_upto_region 11 with fail
  go_cut [47] (fun _ wx => ∃ a pa b pb, Sp r (i - l.count - 1) a b ∧ TwoW w (w.heap.size + 1) (w.heap.size + 1 + 1) a pa b pb wx)
  case first =>
    go_region_held3 (fun W => Below w.heap.size w W ∧ Room W (w.heap.size + 1) ∧ Room W (w.heap.size + 1 + 1) ∧ W.cell? ⟨g, 0, none⟩ = some (.int .i64 l.count) ∧ W.cell? ⟨g, 1, none⟩ = some (.int .i64 l.total) ∧ W.cell? ⟨g, 2, none⟩ = some (.int .i64 l.depth) ∧ W.cell? ⟨g, 3, none⟩ = some (.pointer pl) ∧ W.cell? ⟨g, 4, none⟩ = some (.int .i64 x) ∧ W.cell? ⟨g, 5, none⟩ = some (.int .i64 r.count) ∧ W.cell? ⟨g, 6, none⟩ = some (.int .i64 r.total) ∧ W.cell? ⟨g, 7, none⟩ = some (.int .i64 r.depth) ∧ W.cell? ⟨g, 8, none⟩ = some (.pointer pr))
      (first
        | ((with_reducible refine ⟨hB0.drew, hR1.drew, hR2.drew, ?_, ?_, ?_, ?_, ?_, ?_, ?_, ?_, ?_⟩) <;> with_reducible assumption)
        | (have hS := ‹Below w.heap.size w _ ∧ Room _ _ ∧ Room _ _ ∧ _›; (with_reducible refine ⟨hS.1.trans (kk.mono hS.1.size), hS.2.1.keep kk, hS.2.2.1.keep kk, ?_, ?_, ?_, ?_, ?_, ?_, ?_, ?_, ?_⟩) <;> exact keep_of kk (by simp only [hS]))
        | (have hS := ‹Below w.heap.size w _ ∧ Room _ _ ∧ Room _ _ ∧ _›; (with_reducible refine ⟨below_set4 (g := w.heap.size + 1) hS.1 ?_, room_same (g := w.heap.size + 1) hS.2.1, room_far (g := w.heap.size + 1) ?_ hS.2.2.1, ?_, ?_, ?_, ?_, ?_, ?_, ?_, ?_, ?_⟩) <;> first | omega | exact cell_set4 (by simp <;> omega) (by simp only [hS]))
        | (have hS := ‹Below w.heap.size w _ ∧ Room _ _ ∧ Room _ _ ∧ _›; (with_reducible refine ⟨below_set4 (g := w.heap.size + 1 + 1) hS.1 ?_, room_far (g := w.heap.size + 1 + 1) ?_ hS.2.1, room_same (g := w.heap.size + 1 + 1) hS.2.2.1, ?_, ?_, ?_, ?_, ?_, ?_, ?_, ?_, ?_⟩) <;> first | omega | exact cell_set4 (by simp <;> omega) (by simp only [hS])))
      (first
        | (go_at_call 66; (with_reducible refine (HI.out _ ?_).mono ?_); (exact (‹Below w.heap.size w _ ∧ _›).1); rintro e w1 ⟨a, pa, b, pb, k1, rfl, na, nb, kk⟩; have hS := ‹Below w.heap.size w _ ∧ Room _ _ ∧ Room _ _ ∧ _›; have hb1 := hS.1.trans (kk.mono hS.1.size); have R1 := hS.2.1.keep kk; have R2 := hS.2.2.1.keep kk; clear hS; obtain ⟨v0, v1, v2, v3, f0, f1, f2, f3, f4, f5, f6, f7⟩ := R1.open_; obtain ⟨v0', v1', v2', v3', f0', f1', f2', f3', f4', f5', f6', f7'⟩ := R2.open_))
    all_goals (go_wp2_with fail; go_meet; exact ⟨a, pa, b, pb, k1, two_set (by omega) R1 R2 na nb hb1 (by omega) (by omega)⟩)
  case rest =>
    obtain ⟨a, pa, b, pb, k1, HW⟩ := hcut
    clear i0 i1 i2 i3 i4 i5 i6 i7 i8 j0 j1 j2 j3 j4 j5 j6 j7 j8 hR1 hR2 hB0
    obtain ⟨a0, a1, a2, a3⟩ := rc_cells HW.xa
    obtain ⟨b0, b1, b2, b3⟩ := rc_cells HW.xb
    obtain ⟨i0, i1, i2, i3, i4, i5, i6, i7, i8⟩ := nd_cells (keep_heap HW.u HN.out)
    have HT := Lib.hid HW
    clear HW s1 s2
    go_wp2_with fail
    go_region_with (first
      | (go_at_call 72; ((with_reducible refine (link_any ?_ ?_ HBL.out k1.ba ?_).mono ?_)); (exact (HL.out.below HT.out.u).drew); (exact HT.out.na.drew); (exact split_ok2 k1.la HO.out); rintro e w3 ⟨u, pu, k3, rfl, n3, kk⟩; have b0' := keep_of kk b0; have b1' := keep_of kk b1; have b2' := keep_of kk b2; have b3' := keep_of kk b3; have R1 := Room.keep (w0 := wc.drew) (room_of HT.out.xa) kk; have R2 := Room.keep (w0 := wc.drew) (room_of HT.out.xb) kk; obtain ⟨v0, v1, v2, v3, f0, f1, f2, f3, f4, f5, f6, f7⟩ := R1.open_; obtain ⟨v0', v1', v2', v3', f0', f1', f2', f3', f4', f5', f6', f7'⟩ := R2.open_))
    all_goals
      go_wp2_with fail
      have hw := two_set (a := u) (b := b) (pa := pu) (pb := pb) (by omega) R1 R2 n3 (HT.out.nb.drew.below kk) (HT.out.u.drew.trans (kk.mono HT.out.u.size)) (show w.heap.size ≤ w.heap.size + 1 by omega) (show w.heap.size ≤ w.heap.size + 1 + 1 by omega)
      exact bodyPost_ret (res_ropes rfl (g := w.heap.size + 1) (k := w.heap.size + 1 + 1) rfl rfl hw.xa hw.xb) rfl (two_end (sp_right H1.out k1 k3) hw)
end Go.Proofs.Ytdejdnkkbpmmlaa

namespace Go.Proofs.Ytdejdnkkbpmmlaa
open Go.RowKit

theorem split_at (t : T) : SplitAt t := by
  induction t with
  | nil =>
    intro i p w hi hn hb ho
    obtain rfl : i = 0 := by simp [T.count] at hi; omega
    exact split_zero hn hb
  | node l x r hl hr =>
    intro i p w hi hn hb ho
    rcases Nat.eq_zero_or_pos i with h0 | h0
    · subst h0; exact split_zero hn hb
    · by_cases h1 : i = (T.node l x r).count
      · subst h1; exact split_all hn hb (by simp only [T.count]; omega)
      · by_cases h2 : i ≤ l.count
        · exact split_left hl h0 h2 hn hb ho
        · exact split_right hr (by omega) (by omega) hn hb ho
end Go.Proofs.Ytdejdnkkbpmmlaa
