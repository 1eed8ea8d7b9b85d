/- The walk of link. -/
import Derived.Test.YtfkjnepafgehiaaBalA
namespace Go.Proofs.Ytfkjnepafgehiaa
open Go.RowKit

/-- what link makes of two trees -/
structure Lk (a : T) (s : Int) (b : T) (t : T) : Prop where
  list : t.list = a.list ++ s :: b.list
  bal : t.Bal
  dep : t.depth = max a.depth b.depth ∨ t.depth = max a.depth b.depth + 1

/-- the left one is deeper -/
structure PreL (l : T) (x : Int) (t : T) : Prop where
  bl : l.Bal
  bt : t.Bal
  h1 : l.depth ≤ t.depth + 2
  h2 : t.depth ≤ l.depth + 2
  ok : Ok (l.list ++ x :: t.list)
theorem pre_left {l r b t : T} {x s : Int} (hb : (T.node l x r).Bal) (hd : b.depth + 1 < (T.node l x r).depth) (hk : Lk r s b t) (ho : Ok ((T.node l x r).list ++ s :: b.list)) : PreL l x t := by
  obtain ⟨a1, a2, a3, a4⟩ := hb
  have := hk.dep
  simp only [T.depth] at *
  refine ⟨a1, hk.bal, by omega, by omega, ?_⟩
  rw [hk.list]
  simpa [T.list] using ho
theorem lk_left {l r b t u : T} {x s : Int} (hb : (T.node l x r).Bal) (hd : b.depth + 1 < (T.node l x r).depth) (hk : Lk r s b t) (hu : Bl l x t u) : Lk (T.node l x r) s b u := by
  obtain ⟨a1, a2, a3, a4⟩ := hb
  have h1 := hk.dep
  have h2 := hu.dep
  refine ⟨by rw [hu.list, hk.list]; simp [T.list], hu.bal, ?_⟩
  unfold BalD at h2
  simp only [T.depth] at *
  omega
theorem pre_right {a l r t : T} {x s : Int} (hb : (T.node l x r).Bal) (hd : a.depth + 1 < (T.node l x r).depth) (hk : Lk a s l t) (ho : Ok (a.list ++ s :: (T.node l x r).list)) : PreL t x r := by
  obtain ⟨a1, a2, a3, a4⟩ := hb
  have := hk.dep
  simp only [T.depth] at *
  refine ⟨hk.bal, a2, by omega, by omega, ?_⟩
  rw [hk.list]
  simpa [T.list] using ho
theorem lk_right {a l r t u : T} {x s : Int} (hb : (T.node l x r).Bal) (hd : a.depth + 1 < (T.node l x r).depth) (hk : Lk a s l t) (hu : Bl t x r u) : Lk a s (T.node l x r) u := by
  obtain ⟨a1, a2, a3, a4⟩ := hb
  have h1 := hk.dep
  have h2 := hu.dep
  refine ⟨by rw [hu.list, hk.list]; simp [T.list], hu.bal, ?_⟩
  unfold BalD at h2
  simp only [T.depth] at *
  omega
theorem lk_near {a b : T} {s : Int} (ha : a.Bal) (hb : b.Bal) (h1 : ¬ b.depth + 1 < a.depth) (h2 : ¬ a.depth + 1 < b.depth) : Lk a s b (T.node a s b) :=
  ⟨rfl, ⟨ha, hb, by omega, by omega⟩, .inr rfl⟩

theorem below_three (w : World) (A B C : Obj) : Below w.heap.size w (((w.alloc A).alloc B).alloc C) :=
  (((Below.refl _ _).alloc (Nat.le_refl _) _).alloc (by simp) _).alloc (by simp; omega) _

/-- the contract of link, for trees that are not too deep -/
def LinkAt (n : Nat) : Prop := ∀ {a b : T} {s : Int} {pa pb : Option Addr} {w : World}, a.depth + b.depth ≤ n → Nd w a pa → Nd w b pb → a.Bal → b.Bal → Ok (a.list ++ s :: b.list) →
    Calls Try.prog 59 #[.agg #[.int .i64 a.count, .int .i64 a.total, .int .i64 a.depth, .pointer pa], .int .i64 s, .agg #[.int .i64 b.count, .int .i64 b.total, .int .i64 b.depth, .pointer pb]] w (Gives (Lk a s b) w)

set_option maxHeartbeats 2000000 in
theorem link_near {a b : T} {s : Int} {pa pb : Option Addr} {w : World} (ha : Nd w a pa) (hb : Nd w b pb) (ba : a.Bal) (bb : b.Bal) (h1 : ¬ b.depth + 1 < a.depth) (h2 : ¬ a.depth + 1 < b.depth) (ho : Ok (a.list ++ s :: b.list)) :
    Calls Try.prog 59 #[.agg #[.int .i64 a.count, .int .i64 a.total, .int .i64 a.depth, .pointer pa], .int .i64 s, .agg #[.int .i64 b.count, .int .i64 b.total, .int .i64 b.depth, .pointer pb]] w (Gives (Lk a s b) w) := by
  have d1 := (T.bounds ho.mid.1).2.2.2
  have d2 := (T.bounds ho.mid.2.1).2.2.2
  have e3 : decide ((1 : Int) < (a.depth : Int) - (b.depth : Int)) = false := by simp; omega
  have e4 : decide ((a.depth : Int) - (b.depth : Int) < -1) = false := by simp; omega
  have HK := Lib.hid (lk_near (s := s) ba bb h1 h2)
  have HA := Lib.hid ha
  have HB := Lib.hid hb
  have HO : Hid (Ok (T.node a s b).list) := Lib.hid ho
  have hB0 : Below w.heap.size w (((w.alloc (.cells (rc a.count a.total a.depth pa) 27)).alloc (.cells (rc b.count b.total b.depth pb) 27)).alloc (.cells #[.int .i64 0, .int .i64 0, .int .i64 0, .pointer none] 27)) := below_three w _ _ _
  have hR0 : Room (((w.alloc (.cells (rc a.count a.total a.depth pa) 27)).alloc (.cells (rc b.count b.total b.depth pb) 27)).alloc (.cells #[.int .i64 0, .int .i64 0, .int .i64 0, .pointer none] 27)) (w.heap.size + 1 + 1) := ⟨_, _, _, _, new_at _ (by simp)⟩
  clear ha hb ba bb h1 h2 ho
  go_enter Try.func59, Try.ntmps59
  go_wp2_with fail
  refine (build_any (HA.out.below hB0) (HB.out.below hB0) HO.out).mono ?_
  rintro e w3 ⟨_, p3, rfl, rfl, n3, kk⟩
  have hR3 := hR0.keep kk
  have hb3 := hB0.trans (kk.mono hB0.size)
  obtain ⟨v0, v1, v2, v3, f0, f1, f2, f3, f4, f5, f6, f7⟩ := hR3.open_
  go_wp2_with fail
  exact bodyPost_ret (res_rope rfl (g := w.heap.size + 1 + 1) rfl (heap_set4 hR3)) rfl (gives_set HK.out n3 hR3 (below_set4 hb3 (by omega)))

set_option maxHeartbeats 2000000 in
theorem link_left {n : Nat} (hi : LinkAt n) {l r b : T} {x s : Int} {pa pb : Option Addr} {w : World} (hn1 : (T.node l x r).depth + b.depth ≤ n + 1) (ha : Nd w (T.node l x r) pa) (hb : Nd w b pb) (ba : (T.node l x r).Bal) (bb : b.Bal)
    (h1 : b.depth + 1 < (T.node l x r).depth) (ho : Ok ((T.node l x r).list ++ s :: b.list)) :
    Calls Try.prog 59 #[.agg #[.int .i64 (T.node l x r).count, .int .i64 (T.node l x r).total, .int .i64 (T.node l x r).depth, .pointer pa], .int .i64 s, .agg #[.int .i64 b.count, .int .i64 b.total, .int .i64 b.depth, .pointer pb]] w (Gives (Lk (T.node l x r) s b) w) := by
  have d1 := (T.bounds ho.mid.1).2.2.2
  have d2 := (T.bounds ho.mid.2.1).2.2.2
  have e1 : (1 : Int) < ((T.node l x r).depth : Int) - (b.depth : Int) := by omega
  have PL : Hid (∀ t, Lk r s b t → PreL l x t) := Lib.hid (fun t hk => pre_left ba h1 hk ho)
  have LL : Hid (∀ t u, Lk r s b t → Bl l x t u → Lk (T.node l x r) s b u) := Lib.hid (fun t u hk hu => lk_left ba h1 hk hu)
  obtain ⟨g, pl, pr, rfl, hn, hl, hr⟩ := ha
  have HI : Hid (∀ W, Below w.heap.size w W → Calls Try.prog 59 #[.agg #[.int .i64 r.count, .int .i64 r.total, .int .i64 r.depth, .pointer pr], .int .i64 s, .agg #[.int .i64 b.count, .int .i64 b.total, .int .i64 b.depth, .pointer pb]] W (Gives (Lk r s b) W)) := Lib.hid (fun W hW =>
    hi (by simp only [T.depth] at hn1; omega) (hr.below hW) (hb.below hW) ba.2.1 bb (by
      have : Ok (l.list ++ (x :: (r.list ++ s :: b.list))) := by simpa [T.list] using ho
      exact this.app.2.sub (List.sublist_cons_self _ _)))
  obtain ⟨i0, i1, i2, i3, i4, i5, i6, i7, i8⟩ := nd_cells hn
  have kg := heap_lt hn
  have HL := Lib.hid hl
  have hB0 : Below w.heap.size w (((w.alloc (.cells (rc (T.node l x r).count (T.node l x r).total (T.node l x r).depth (some ⟨g, 0, none⟩)) 27)).alloc (.cells (rc b.count b.total b.depth pb) 27)).alloc (.cells #[.int .i64 0, .int .i64 0, .int .i64 0, .pointer none] 27)) := below_three w _ _ _
  have hR0 : Room (((w.alloc (.cells (rc (T.node l x r).count (T.node l x r).total (T.node l x r).depth (some ⟨g, 0, none⟩)) 27)).alloc (.cells (rc b.count b.total b.depth pb) 27)).alloc (.cells #[.int .i64 0, .int .i64 0, .int .i64 0, .pointer none] 27)) (w.heap.size + 1 + 1) := ⟨_, _, _, _, new_at _ (by simp)⟩
  clear hb ba bb h1 ho hn hl hr hn1 hi
  go_enter Try.func59, Try.ntmps59
  go_wp2_with fail
  go_region_held3 (fun W => Below w.heap.size w W ∧ Room W (w.heap.size + 1 + 1) ∧ W.cell? ⟨g, 0, none⟩ = some (.int .i64 l.count) ∧ W.cell? ⟨g, 1, none⟩ = some (.int .i64 l.total) ∧ W.cell? ⟨g, 2, none⟩ = some (.int .i64 l.depth) ∧ W.cell? ⟨g, 3, none⟩ = some (.pointer pl) ∧ W.cell? ⟨g, 4, none⟩ = some (.int .i64 x) ∧ W.cell? ⟨g, 5, none⟩ = some (.int .i64 r.count) ∧ W.cell? ⟨g, 6, none⟩ = some (.int .i64 r.total) ∧ W.cell? ⟨g, 7, none⟩ = some (.int .i64 r.depth) ∧ W.cell? ⟨g, 8, none⟩ = some (.pointer pr) ∧ W.cell? ⟨w.heap.size + 1, 0, none⟩ = some (.int .i64 b.count) ∧ W.cell? ⟨w.heap.size + 1, 1, none⟩ = some (.int .i64 b.total) ∧ W.cell? ⟨w.heap.size + 1, 2, none⟩ = some (.int .i64 b.depth) ∧ W.cell? ⟨w.heap.size + 1, 3, none⟩ = some (.pointer pb))
    (first
      | (refine ⟨hB0.drew, hR0, ?_, ?_, ?_, ?_, ?_, ?_, ?_, ?_, ?_, ?_, ?_, ?_, ?_⟩ <;> first | assumption | exact keep_of hB0.drew (by assumption) | simp [go_sem])
      | (have hS := ‹Below w.heap.size w _ ∧ Room _ _ ∧ _›; refine ⟨hS.1.trans (kk.mono hS.1.size), hS.2.1.keep kk, ?_, ?_, ?_, ?_, ?_, ?_, ?_, ?_, ?_, ?_, ?_, ?_, ?_⟩ <;> exact keep_of kk (by simp only [hS]))
      | (have hS := ‹Below w.heap.size w _ ∧ Room _ _ ∧ _›; refine ⟨below_set4 hS.1 (by omega), ⟨_, _, _, _, heap_set4 hS.2.1⟩, ?_, ?_, ?_, ?_, ?_, ?_, ?_, ?_, ?_, ?_, ?_, ?_, ?_⟩ <;> exact cell_set4 (by simp <;> omega) (by simp only [hS])))
    (first
      | (go_at_call 59; refine (HI.out _ ?_).mono ?_; (exact (‹Below w.heap.size w _ ∧ _›).1); rintro e w1 ⟨t1, p1, k1, rfl, n1, kk⟩; have PP := PL.out t1 k1)
      | (go_at_call 60; refine (balance_any ?_ n1 PP.bl PP.bt PP.h1 PP.h2 PP.ok).mono ?_; (exact HL.out.below (‹Below w.heap.size w _ ∧ _›).1); rintro e w3 ⟨t3, p3, k3, rfl, n3, kk⟩; have hR3 := (‹Below w.heap.size w _ ∧ Room _ _ ∧ _›).2.1.keep kk; obtain ⟨v0, v1, v2, v3, c0, c1, c2, c3, f0, f1, f2, f3⟩ := hR3.open_))
  go_wp2_with fail
  exact bodyPost_ret (res_rope rfl (g := w.heap.size + 1 + 1) rfl (heap_set4 hR3)) rfl (gives_set (LL.out t1 t3 k1 k3) n3 hR3 (‹Below w.heap.size w _ ∧ _›).1)

set_option maxHeartbeats 2000000 in
theorem link_right {n : Nat} (hi : LinkAt n) {a l r : T} {x s : Int} {pa pb : Option Addr} {w : World} (hn1 : a.depth + (T.node l x r).depth ≤ n + 1) (ha : Nd w a pa) (hb : Nd w (T.node l x r) pb) (ba : a.Bal) (bb : (T.node l x r).Bal)
    (h1 : a.depth + 1 < (T.node l x r).depth) (ho : Ok (a.list ++ s :: (T.node l x r).list)) :
    Calls Try.prog 59 #[.agg #[.int .i64 a.count, .int .i64 a.total, .int .i64 a.depth, .pointer pa], .int .i64 s, .agg #[.int .i64 (T.node l x r).count, .int .i64 (T.node l x r).total, .int .i64 (T.node l x r).depth, .pointer pb]] w (Gives (Lk a s (T.node l x r)) w) := by
  have d1 := (T.bounds ho.mid.1).2.2.2
  have d2 := (T.bounds ho.mid.2.1).2.2.2
  have e1 : (a.depth : Int) - ((T.node l x r).depth : Int) < -1 := by omega
  have e3 : decide ((1 : Int) < (a.depth : Int) - ((T.node l x r).depth : Int)) = false := by simp; omega
  have PL : Hid (∀ t, Lk a s l t → PreL t x r) := Lib.hid (fun t hk => pre_right bb h1 hk ho)
  have LL : Hid (∀ t u, Lk a s l t → Bl t x r u → Lk a s (T.node l x r) u) := Lib.hid (fun t u hk hu => lk_right bb h1 hk hu)
  obtain ⟨g, pl, pr, rfl, hn, hl, hr⟩ := hb
  have HI : Hid (∀ W, Below w.heap.size w W → Calls Try.prog 59 #[.agg #[.int .i64 a.count, .int .i64 a.total, .int .i64 a.depth, .pointer pa], .int .i64 s, .agg #[.int .i64 l.count, .int .i64 l.total, .int .i64 l.depth, .pointer pl]] W (Gives (Lk a s l) W)) := Lib.hid (fun W hW =>
    hi (by simp only [T.depth] at hn1; omega) (ha.below hW) (hl.below hW) ba bb.1 (by
      have : Ok ((a.list ++ s :: l.list) ++ (x :: r.list)) := by simpa [T.list] using ho
      exact this.app.1))
  obtain ⟨i0, i1, i2, i3, i4, i5, i6, i7, i8⟩ := nd_cells hn
  have kg := heap_lt hn
  have HR := Lib.hid hr
  have hB0 : Below w.heap.size w (((w.alloc (.cells (rc a.count a.total a.depth pa) 27)).alloc (.cells (rc (T.node l x r).count (T.node l x r).total (T.node l x r).depth (some ⟨g, 0, none⟩)) 27)).alloc (.cells #[.int .i64 0, .int .i64 0, .int .i64 0, .pointer none] 27)) := below_three w _ _ _
  have hR0 : Room (((w.alloc (.cells (rc a.count a.total a.depth pa) 27)).alloc (.cells (rc (T.node l x r).count (T.node l x r).total (T.node l x r).depth (some ⟨g, 0, none⟩)) 27)).alloc (.cells #[.int .i64 0, .int .i64 0, .int .i64 0, .pointer none] 27)) (w.heap.size + 1 + 1) := ⟨_, _, _, _, new_at _ (by simp)⟩
  clear ha ba bb h1 ho hn hl hr hn1 hi
  go_enter Try.func59, Try.ntmps59
  go_wp2_with fail
  go_region_held3 (fun W => Below w.heap.size w W ∧ Room W (w.heap.size + 1 + 1) ∧ W.cell? ⟨g, 0, none⟩ = some (.int .i64 l.count) ∧ W.cell? ⟨g, 1, none⟩ = some (.int .i64 l.total) ∧ W.cell? ⟨g, 2, none⟩ = some (.int .i64 l.depth) ∧ W.cell? ⟨g, 3, none⟩ = some (.pointer pl) ∧ W.cell? ⟨g, 4, none⟩ = some (.int .i64 x) ∧ W.cell? ⟨g, 5, none⟩ = some (.int .i64 r.count) ∧ W.cell? ⟨g, 6, none⟩ = some (.int .i64 r.total) ∧ W.cell? ⟨g, 7, none⟩ = some (.int .i64 r.depth) ∧ W.cell? ⟨g, 8, none⟩ = some (.pointer pr) ∧ W.cell? ⟨w.heap.size, 0, none⟩ = some (.int .i64 a.count) ∧ W.cell? ⟨w.heap.size, 1, none⟩ = some (.int .i64 a.total) ∧ W.cell? ⟨w.heap.size, 2, none⟩ = some (.int .i64 a.depth) ∧ W.cell? ⟨w.heap.size, 3, none⟩ = some (.pointer pa))
    (first
      | (refine ⟨hB0.drew, hR0, ?_, ?_, ?_, ?_, ?_, ?_, ?_, ?_, ?_, ?_, ?_, ?_, ?_⟩ <;> first | assumption | exact keep_of hB0.drew (by assumption) | simp [go_sem])
      | (have hS := ‹Below w.heap.size w _ ∧ Room _ _ ∧ _›; refine ⟨hS.1.trans (kk.mono hS.1.size), hS.2.1.keep kk, ?_, ?_, ?_, ?_, ?_, ?_, ?_, ?_, ?_, ?_, ?_, ?_, ?_⟩ <;> exact keep_of kk (by simp only [hS]))
      | (have hS := ‹Below w.heap.size w _ ∧ Room _ _ ∧ _›; refine ⟨below_set4 hS.1 (by omega), ⟨_, _, _, _, heap_set4 hS.2.1⟩, ?_, ?_, ?_, ?_, ?_, ?_, ?_, ?_, ?_, ?_, ?_, ?_, ?_⟩ <;> exact cell_set4 (by simp <;> omega) (by simp only [hS])))
    (first
      | (go_at_call 59; refine (HI.out _ ?_).mono ?_; (exact (‹Below w.heap.size w _ ∧ _›).1); rintro e w1 ⟨t1, p1, k1, rfl, n1, kk⟩; have PP := PL.out t1 k1)
      | (go_at_call 60; refine (balance_any n1 ?_ PP.bl PP.bt PP.h1 PP.h2 PP.ok).mono ?_; (exact HR.out.below (‹Below w.heap.size w _ ∧ _›).1); rintro e w3 ⟨t3, p3, k3, rfl, n3, kk⟩; have hR3 := (‹Below w.heap.size w _ ∧ Room _ _ ∧ _›).2.1.keep kk; obtain ⟨v0, v1, v2, v3, c0, c1, c2, c3, f0, f1, f2, f3⟩ := hR3.open_))
  go_wp2_with fail
  exact bodyPost_ret (res_rope rfl (g := w.heap.size + 1 + 1) rfl (heap_set4 hR3)) rfl (gives_set (LL.out t1 t3 k1 k3) n3 hR3 (‹Below w.heap.size w _ ∧ _›).1)

theorem link_at (n : Nat) : LinkAt n := by
  induction n with
  | zero =>
    intro a b s pa pb w h ha hb ba bb ho
    exact link_near ha hb ba bb (by omega) (by omega) ho
  | succ n ih =>
    intro a b s pa pb w h ha hb ba bb ho
    by_cases h1 : b.depth + 1 < a.depth
    · obtain ⟨l, x, r, rfl⟩ := T.depth_pos (t := a) (by omega)
      exact link_left ih h ha hb ba bb h1 ho
    · by_cases h2 : a.depth + 1 < b.depth
      · obtain ⟨l, x, r, rfl⟩ := T.depth_pos (t := b) (by omega)
        exact link_right ih h ha hb ba bb h2 ho
      · exact link_near ha hb ba bb h1 h2 ho
theorem link_any {a b : T} {s : Int} {pa pb : Option Addr} {w : World} (ha : Nd w a pa) (hb : Nd w b pb) (ba : a.Bal) (bb : b.Bal) (ho : Ok (a.list ++ s :: b.list)) :
    Calls Try.prog 59 #[.agg #[.int .i64 a.count, .int .i64 a.total, .int .i64 a.depth, .pointer pa], .int .i64 s, .agg #[.int .i64 b.count, .int .i64 b.total, .int .i64 b.depth, .pointer pb]] w (Gives (Lk a s b) w) := link_at _ (Nat.le_refl _) ha hb ba bb ho
end Go.Proofs.Ytfkjnepafgehiaa
