/- The walk of lives: the chapter's examples hold. -/
import Derived.Test.YtfkjnepafgehiaaSameW
namespace Go.Proofs.Ytfkjnepafgehiaa
open Go.RowKit

theorem RdI.lit {W : World} {t : TypeId} {cs : Array Value} {zs : List Int} (h : ints zs = cs) : RdI (W.alloc (.cells cs t)) (W.alloc (.cells cs t)).heap.size (some ⟨W.heap.size, 0, none⟩) zs := fun k hk => by
  subst h
  refine ⟨W.heap.size, 0, rfl, by simp, ?_⟩
  rw [Nat.zero_add, cell_of_row _ W.heap.size k (ints zs) t (0, 0) (heap_alloc_new W _)]
  simp [ints, hk]

/-- ropes in variables -/
structure Bs (w W : World) (l : List (Nat × T × Option Addr)) : Prop where
  u : Below w.heap.size w W
  b : ∀ x ∈ l, w.heap.size ≤ x.1 ∧ W.heap[x.1]? = some (.cells (rc x.2.1.count x.2.1.total x.2.1.depth x.2.2) 27 (0, 0)) ∧ Nd W x.2.1 x.2.2
  d : l.Pairwise fun x y => x.1 ≠ y.1
theorem Bs.next {w W W' : World} {l : List (Nat × T × Option Addr)} (h : Bs w W l) (kk : Below W.heap.size W W') : Bs w W' l :=
  ⟨h.u.trans (kk.mono h.u.size), fun x hx => ⟨(h.b x hx).1, keep_heap kk (h.b x hx).2.1, (h.b x hx).2.2.below kk⟩, h.d⟩
theorem Bs.push {w W : World} {l : List (Nat × T × Option Addr)} (h : Bs w W l) {t : T} {p : Option Addr} (hn : Nd W t p) (g : Nat) (hg : W.heap.size = g) : Bs w (W.alloc (.cells #[.int .i64 t.count, .int .i64 t.total, .int .i64 t.depth, .pointer p] 27)) ((g, t, p) :: l) := by
  subst hg
  have kk := (Below.refl W.heap.size W).alloc (Nat.le_refl _) (.cells #[.int .i64 t.count, .int .i64 t.total, .int .i64 t.depth, .pointer p] 27)
  refine ⟨(h.next kk).u, fun x hx => ?_, List.pairwise_cons.2 ⟨fun x hx => ?_, h.d⟩⟩
  · rcases List.mem_cons.1 hx with rfl | hx
    · exact ⟨h.u.size, heap_alloc_new W _, hn.below kk⟩
    · exact (h.next kk).b x hx
  · have := heap_lt (h.b x hx).2.1
    show W.heap.size ≠ x.1
    omega
theorem Bs.lit {w W : World} {l : List (Nat × T × Option Addr)} (h : Bs w W l) (o : Obj) : Bs w (W.alloc o) l := h.next ((Below.refl W.heap.size W).alloc (Nat.le_refl _) o)
theorem Bs.swap {w W : World} {a b : Nat × T × Option Addr} {l : List (Nat × T × Option Addr)} (h : Bs w W (a :: b :: l)) : Bs w W (b :: a :: l) := by
  refine ⟨h.u, fun x hx => h.b x (by simp at hx ⊢; rcases hx with h | h | h <;> simp [h]), ?_⟩
  obtain ⟨h1, h2⟩ := List.pairwise_cons.1 h.d
  obtain ⟨h3, h4⟩ := List.pairwise_cons.1 h2
  refine List.pairwise_cons.2 ⟨fun x hx => ?_, List.pairwise_cons.2 ⟨fun x hx => h1 x (by simp [hx]), h4⟩⟩
  rcases List.mem_cons.1 hx with rfl | hx
  · exact Ne.symm (h1 _ (by simp))
  · exact h3 x hx
theorem Bs.rot {w W : World} {a b c : Nat × T × Option Addr} {l : List (Nat × T × Option Addr)} (h : Bs w W (a :: b :: c :: l)) : Bs w W (c :: a :: b :: l) := by
  refine ⟨h.u, fun x hx => h.b x (by simp at hx ⊢; rcases hx with h | h | h | h <;> simp [h]), ?_⟩
  obtain ⟨h1, h2⟩ := List.pairwise_cons.1 h.d
  obtain ⟨h3, h4⟩ := List.pairwise_cons.1 h2
  obtain ⟨h5, h6⟩ := List.pairwise_cons.1 h4
  refine List.pairwise_cons.2 ⟨fun x hx => ?_, List.pairwise_cons.2 ⟨fun x hx => ?_, List.pairwise_cons.2 ⟨fun x hx => h3 x (by simp [hx]), h6⟩⟩⟩
  · rcases List.mem_cons.1 hx with rfl | hx
    · exact Ne.symm (h1 _ (by simp))
    · rcases List.mem_cons.1 hx with rfl | hx
      · exact Ne.symm (h3 _ (by simp))
      · exact h5 x hx
  · rcases List.mem_cons.1 hx with rfl | hx
    · exact h1 _ (by simp)
    · exact h1 x (by simp [hx])
theorem Bs.cells {w W : World} {a : Nat × T × Option Addr} {l : List (Nat × T × Option Addr)} (h : Bs w W (a :: l)) :
    W.cell? ⟨a.1, 0, none⟩ = some (.int .i64 a.2.1.count) ∧ W.cell? ⟨a.1, 1, none⟩ = some (.int .i64 a.2.1.total) ∧ W.cell? ⟨a.1, 2, none⟩ = some (.int .i64 a.2.1.depth) ∧ W.cell? ⟨a.1, 3, none⟩ = some (.pointer a.2.2) :=
  rc_cells (h.b a (by simp)).2.1
theorem Bs.nd {w W : World} {a : Nat × T × Option Addr} {l : List (Nat × T × Option Addr)} (h : Bs w W (a :: l)) : Nd W a.2.1 a.2.2 := (h.b a (by simp)).2.2
theorem Bs.room {w W : World} {a : Nat × T × Option Addr} {l : List (Nat × T × Option Addr)} (h : Bs w W (a :: l)) : Room W a.1 := room_of (h.b a (by simp)).2.1
theorem Bs.set {w W : World} {g : Nat} {q : T × Option Addr} {l : List (Nat × T × Option Addr)} (h : Bs w W ((g, q) :: l)) {m : T} {pm : Option Addr} (hm : Nd W m pm) :
    Bs w ((((W.setCell ⟨g, 0, none⟩ (.int .i64 m.count)).setCell ⟨g, 1, none⟩ (.int .i64 m.total)).setCell ⟨g, 2, none⟩ (.int .i64 m.depth)).setCell ⟨g, 3, none⟩ (.pointer pm)) ((g, m, pm) :: l) := by
  obtain ⟨h1, h2⟩ := List.pairwise_cons.1 h.d
  have hr := h.room
  have hg := (h.b (g, q) (by simp)).1
  refine ⟨below_set4 h.u hg, fun x hx => ?_, List.pairwise_cons.2 ⟨fun x hx => h1 x hx, h2⟩⟩
  rcases List.mem_cons.1 hx with rfl | hx
  · exact ⟨hg, heap_set4 hr, hm.set4 hr⟩
  · have hb := h.b x (by simp [hx])
    exact ⟨hb.1, far_set4 (Ne.symm (h1 x hx)) hb.2.1, hb.2.2.set4 hr⟩

theorem same_lit {t : T} {p A : Option Addr} {n c : Nat} {f : Int} {w : World} {zs : List Int} (hn : Nd w t p) (hs : Ls zs t) (hv : Vd zs) (hr : RdI w w.heap.size A zs) (hl : zs.length = n) :
    Calls Try.prog 12 #[.agg #[.int .i64 t.count, .int .i64 t.total, .int .i64 t.depth, .pointer p], .int .i64 f, .slice A n c, .int .i64 f] w fun e w' => e = .returned (.bool true) ∧ Below w.heap.size w w' := by
  obtain ⟨h1, h2⟩ := hs
  subst h1
  rw [T.len] at hl
  subst hl
  exact same_any hn h2 hv hr
def l4 : List Int := [3, 0, 5, 2]
theorem vd4 : Vd l4 := chk_zero.1 (by decide)
theorem vd_dec (l : List Int) (h : chk l = 0) : Vd l := chk_zero.1 h

/-- the answers at the chapter's example -/
structure Ex (t : T) : Prop where
  ls : Ls l4 t
  dep : t.depth = 3
theorem Ex.ok {t : T} (h : Ex t) : Ok t.list := by rw [h.ls.list]; exact vd4.ok
theorem Ex.count {t : T} (h : Ex t) : t.count = 4 := by rw [← T.len, h.ls.list]; rfl
theorem Ex.total {t : T} (h : Ex t) : t.total = 10 := by rw [← T.sum, h.ls.list]; rfl
theorem half4 : halfD 4 = 3 := by
  rw [halfD_pos (by omega), halfD_pos (by omega), halfD_pos (by omega)]
  show halfD 0 + 1 + 1 + 1 = 3
  rw [halfD_zero]
theorem ex_of (w : World) (A : Option Addr) (c : Nat) (hr : RdI w w.heap.size A l4) (hc : 4 ≤ c) (hm : c ≤ 9223372036854775807) : Calls Try.prog 11 #[.slice A 4 c] w (GivesE Ex 0 w) :=
  (of_ok A c l4 w hr vd4 hc hm).mono fun _ _ h => givesE_imp (fun _ k => ⟨k.ls, k.dep.trans half4⟩) h
theorem ex_sum {t : T} {p : Option Addr} {w : World} (h : Ex t) (hn : Nd w t p) : Calls Try.prog 18 #[.agg #[.int .i64 t.count, .int .i64 t.total, .int .i64 t.depth, .pointer p], .int .i64 3] w fun e w' => e = .returned (.tuple #[.int .i64 8, .int .i64 0]) ∧ Below w.heap.size w w' := by
  have := sumR_ok (i := 3) hn h.ok (by rw [h.count]; omega)
  rw [show pre t.list 3 = 8 by rw [h.ls.list]; rfl] at this
  exact this
theorem ex_find {t : T} {p : Option Addr} {w : World} (h : Ex t) (hn : Nd w t p) : Calls Try.prog 20 #[.agg #[.int .i64 t.count, .int .i64 t.total, .int .i64 t.depth, .pointer p], .int .i64 3] w fun e w' => e = .returned (.tuple #[.int .i64 2, .int .i64 0, .int .i64 0]) ∧ Below w.heap.size w w' := by
  have := findR_ok (x := 3) (i := 2) hn h.ok (by rw [h.ls.list]; exact ⟨by decide, by decide, by decide⟩)
  rw [show (3 : Int) - pre t.list 2 = 0 by rw [h.ls.list]; rfl] at this
  exact this
structure SpL (l m : List Int) (a b : T) : Prop where
  a : Ls l a
  b : Ls m b
theorem ex_split {t : T} {p : Option Addr} {w : World} (h : Ex t) (hn : Nd w t p) : Calls Try.prog 23 #[.agg #[.int .i64 t.count, .int .i64 t.total, .int .i64 t.depth, .pointer p], .int .i64 1] w (TwoE (SpL [3] [0, 5, 2]) 0 w) := by
  refine (splitP_ok (i := 1) hn h.ls.bal h.ok (by rw [h.count]; omega)).mono ?_
  rintro e w' ⟨a, pa, b, pb, k, h1⟩
  refine ⟨a, pa, b, pb, ⟨⟨?_, k.ba⟩, ⟨?_, k.bb⟩⟩, h1⟩
  · rw [k.la, h.ls.list]; rfl
  · rw [k.lb, h.ls.list]; rfl
theorem ex_join {a b : T} {pa pb : Option Addr} {w : World} (h : SpL [3] [0, 5, 2] a b) (ha : Nd w a pa) (hb : Nd w b pb) : Calls Try.prog 24 #[.agg #[.int .i64 b.count, .int .i64 b.total, .int .i64 b.depth, .pointer pb], .agg #[.int .i64 a.count, .int .i64 a.total, .int .i64 a.depth, .pointer pa]] w (GivesE (Ls [0, 5, 2, 3]) 0 w) := by
  have := joinP_any hb ha h.b.bal h.a.bal (by rw [h.b.list]; exact (vd_dec [0, 5, 2] (by decide)).ok) (by rw [h.a.list]; exact (vd_dec [3] (by decide)).ok)
  rw [h.a.list, h.b.list, show joinR [0, 5, 2] [3] = ([0, 5, 2, 3], 0) by decide] at this
  exact this
theorem ex_ins {t : T} {p A : Option Addr} {w : World} (h : Ex t) (hn : Nd w t p) (hr : RdI w w.heap.size A [7]) : Calls Try.prog 28 #[.agg #[.int .i64 t.count, .int .i64 t.total, .int .i64 t.depth, .pointer p], .int .i64 1, .slice A 1 1] w (GivesE (Ls [3, 7, 0, 5, 2]) 0 w) := by
  have := ins_any 1 A 1 [7] hr (by decide) (by decide) hn h.ls.bal h.ok (by decide)
  rw [h.ls.list, show insR l4 1 [7] = ([3, 7, 0, 5, 2], 0) by decide] at this
  exact this
theorem ex_ins2 {t : T} {p A : Option Addr} {w : World} (h : Ex t) (hn : Nd w t p) (hr : RdI w w.heap.size A [-1]) : Calls Try.prog 28 #[.agg #[.int .i64 t.count, .int .i64 t.total, .int .i64 t.depth, .pointer p], .int .i64 0, .slice A 1 1] w (GivesE (Ls []) 12 w) := by
  have := ins_any 0 A 1 [-1] hr (by decide) (by decide) hn h.ls.bal h.ok (by decide)
  rw [h.ls.list, show insR l4 0 [-1] = ([], 12) by decide] at this
  exact this
theorem ex_rem {t : T} {p : Option Addr} {w : World} (h : Ex t) (hn : Nd w t p) : Calls Try.prog 30 #[.agg #[.int .i64 t.count, .int .i64 t.total, .int .i64 t.depth, .pointer p], .int .i64 1, .int .i64 2] w (GivesE (Ls [3, 2]) 0 w) := by
  have := rem_any 1 2 hn h.ls.bal h.ok (by decide)
  rw [h.ls.list, show remR l4 1 2 = ([3, 2], 0) by decide] at this
  exact this
theorem ex_mov {t : T} {p : Option Addr} {w : World} (h : Ex t) (hn : Nd w t p) : Calls Try.prog 32 #[.agg #[.int .i64 t.count, .int .i64 t.total, .int .i64 t.depth, .pointer p], .int .i64 0, .int .i64 2, .int .i64 2] w (GivesE (Ls [5, 2, 3, 0]) 0 w) := by
  have := mov_any 0 2 2 hn h.ls.bal h.ok (by decide) (by decide)
  rw [h.ls.list, show movR l4 0 2 2 = ([5, 2, 3, 0], 0) by decide] at this
  exact this
theorem ex_split2 {t : T} {p : Option Addr} {w : World} (h : Ex t) : Calls Try.prog 23 #[.agg #[.int .i64 t.count, .int .i64 t.total, .int .i64 t.depth, .pointer p], .int .i64 5] w (TwoE (fun a b => a = .nil ∧ b = .nil) 4 w) :=
  splitP_bad 5 h.ok (by decide) (by rw [h.count]; omega)
theorem ex_set {t : T} {p : Option Addr} {w : World} (h : Ex t) (hn : Nd w t p) : Calls Try.prog 34 #[.agg #[.int .i64 t.count, .int .i64 t.total, .int .i64 t.depth, .pointer p], .int .i64 4, .int .i64 1] w (GivesE (Ls []) 4 w) := by
  have := set_any 4 1 hn h.ls.bal h.ok (by decide) (by decide) (by decide)
  rw [h.ls.list, show setR l4 4 1 = ([], 4) by decide] at this
  exact this
end Go.Proofs.Ytfkjnepafgehiaa
