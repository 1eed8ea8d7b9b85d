/- Words for memory that the walks of this seat share. -/
import Derived.Test.YtakgnpmfnechhaaProg
import Derived.Test.YtakgnpmfnechhaaPlain
import Derived.WalkKit
import Derived.WalkSpells
import Derived.WalkLawsBesides
import Derived.Lib.Hide
import Derived.Laws.OwnMore
import Derived.Laws.CopyOwn
import Derived.Laws.AppendOwnNone
import Derived.Deep.AppendLies
import Derived.Deep.Draws
import Derived.Deep.QuietTactic
import Derived.BigQuiet
import Derived.StillTailTactics
import Derived.Deep.RegionHeld3
import Derived.OneCell
import Derived.Outline
import Derived.IntWalk
import Derived.RegionTactic
import Derived.Deep.OwnRows
import Derived.Maps.AppendAt
namespace Go.Proofs.Ytakgnpmfnechhaa
open Go.RowKit

theorem heap_lt {w : World} {b : Nat} {o : Obj} (h : w.heap[b]? = some o) : b < w.heap.size := by
  rcases Nat.lt_or_ge b w.heap.size with hlt | hge
  · exact hlt
  · rw [Array.getElem?_eq_none hge] at h; cases h
theorem new_at {w : World} {o : Obj} (g : Nat) (h : w.heap.size = g) : (w.alloc o).heap[g]? = some o := h ▸ heap_alloc_new w o
theorem add_plain (b off i : Nat) : (⟨b, off, none⟩ : Addr).add i = ⟨b, off + i, none⟩ := by
  unfold Addr.add
  split <;> simp_all
theorem ret_int {k : IntKind} {a b : Int} (h : a = b) : Ending.returned (.int k a) = .returned (.int k b) := by rw [h]
theorem ret_bool {a b : Bool} (h : a = b) : Ending.returned (.bool a) = .returned (.bool b) := by rw [h]
theorem below_drewN (w : World) (n : Nat) : Below w.heap.size w (w.drewN n) := ⟨rfl, rfl, rfl, Nat.le_refl _, fun _ _ => rfl⟩
theorem below_new (w : World) (o : Obj) : Below w.heap.size w (w.alloc o) := (Below.refl _ _).alloc (Nat.le_refl _) _
theorem keep_heap {w w' : World} {b : Nat} {o : Obj} (hb : Below w.heap.size w w') (h : w.heap[b]? = some o) : w'.heap[b]? = some o := (hb.block b (heap_lt h)).trans h
theorem own_next {w w' : World} {base e size n : Nat} {v : Value} {xs : List Value} (h : w.ownsRow base e size v n xs) (hb : Below w.heap.size w w') : w'.ownsRow base e size v n xs := by
  refine ⟨h.1, ?_⟩
  rcases h.2 with h2 | ⟨g, cap, cur, hv, hg, hgr, r⟩
  · exact .inl h2
  · exact .inr ⟨g, cap, cur, hv, hg, (hb.block g (heap_lt hgr)).trans hgr, r⟩
theorem own_le {w : World} {base base' e size n : Nat} {v : Value} {xs : List Value} (h : w.ownsRow base e size v n xs) (hb : base' ≤ base) : w.ownsRow base' e size v n xs := by
  refine ⟨h.1, ?_⟩
  rcases h.2 with h2 | ⟨g, cap, cur, hv, hg, r⟩
  · exact .inl h2
  · exact .inr ⟨g, cap, cur, hv, Nat.le_trans hb hg, r⟩

/-! ### rows of ints -/
def iv (zs : List Int) : List Value := zs.map (Value.int .i64)
theorem iv_len (zs : List Int) : (iv zs).length = zs.length := by simp [iv]
theorem iv_app (a b : List Int) : iv (a ++ b) = iv a ++ iv b := by simp [iv]
theorem iv_one (zs : List Int) : ∀ u ∈ iv zs, u.oneCell' = true := by
  intro u hu
  obtain ⟨x, _, rfl⟩ := List.mem_map.1 hu
  rfl
theorem info3 : (Try.prog.info? 3).map (fun i => (i.zero, i.size, i.bytes)) = some (some (.int .i64 0), 1, 8) := by kernel_rfl
/-- the cells are ints, below block B -/
def RdI (w : World) (B : Nat) (A : Option Addr) (zs : List Int) : Prop :=
  ∀ k (h : k < zs.length), ∃ b o, A = some ⟨b, o, none⟩ ∧ b < B ∧ w.cell? ⟨b, o + k, none⟩ = some (.int .i64 zs[k])
theorem RdI.nil {w : World} {B : Nat} {A : Option Addr} : RdI w B A [] := fun k h => absurd h (by simp)
theorem RdI.below {w w' : World} {B : Nat} {A : Option Addr} {zs : List Int} (h : RdI w B A zs) (hb : Below B w w') : RdI w' B A zs := fun k hl => by
  obtain ⟨b, o, e, hl2, h1⟩ := h k hl
  exact ⟨b, o, e, hl2, (hb.cell (p := ⟨b, o + k, none⟩) hl2).trans h1⟩
theorem RdI.more {w : World} {B B' : Nat} {A : Option Addr} {zs : List Int} (h : RdI w B A zs) (hB : B ≤ B') : RdI w B' A zs := fun k hl => by
  obtain ⟨b, o, e, hl2, h1⟩ := h k hl
  exact ⟨b, o, e, by omega, h1⟩
theorem RdI.next {w w' : World} {A : Option Addr} {zs : List Int} (h : RdI w w.heap.size A zs) (hb : Below w.heap.size w w') : RdI w' w'.heap.size A zs := (h.below hb).more hb.size
theorem RdI.head {w : World} {B : Nat} {A : Option Addr} {zs : List Int} (h : RdI w B A zs) (m : Nat) : RdI w B A (zs.take m) := fun k hk => by
  have hk' : k < zs.length := by rw [List.length_take] at hk; omega
  obtain ⟨b, o, e, hb, hc⟩ := h k hk'
  exact ⟨b, o, e, hb, by rw [hc, List.getElem_take]⟩
/-- a slice of ints -/
structure SlI (w : World) (A : Option Addr) (c : Nat) (l : List Int) : Prop where
  rd : RdI w w.heap.size A l
  le : l.length ≤ c
  max : c ≤ 9223372036854775807
  nil : A = none → c = 0
theorem SlI.next {w w' : World} {A : Option Addr} {c : Nat} {l : List Int} (h : SlI w A c l) (hb : Below w.heap.size w w') : SlI w' A c l := ⟨h.rd.next hb, h.le, h.max, h.nil⟩
theorem SlI.none (w : World) : SlI w none 0 [] := ⟨RdI.nil, Nat.le_refl _, by omega, fun _ => rfl⟩
theorem SlI.head {w : World} {A : Option Addr} {c : Nat} {l : List Int} (h : SlI w A c l) (i : Nat) : SlI w A c (l.take i) := ⟨h.rd.head i, by have := h.le; rw [List.length_take]; omega, h.max, h.nil⟩
theorem SlI.len {w : World} {A : Option Addr} {c : Nat} {l : List Int} (h : SlI w A c l) : l.length ≤ 9223372036854775807 := Nat.le_trans h.le h.max
/-- a whole block of ints -/
def RI (w : World) (b : Nat) (zs : List Int) : Prop := w.heap[b]? = some (.cells (iv zs).toArray 3 (0, 0))
theorem RI.cell {w : World} {b : Nat} {zs : List Int} (h : RI w b zs) {i : Nat} {x : Int} (hx : zs[i]? = some x) : w.cell? ⟨b, i, none⟩ = some (.int .i64 x) := by
  refine (cell_of_row _ _ i _ 3 (0, 0) h).trans ?_
  simp [iv, hx]
theorem RI.frozen {w : World} {b : Nat} {zs : List Int} (h : RI w b zs) (i : Nat) : w.frozen? ⟨b, i, none⟩ = false := frozen_of_row w b i _ 3 h
theorem RI.keep {w w' : World} {b : Nat} {zs : List Int} (h : RI w b zs) (hb : w'.heap[b]? = w.heap[b]?) : RI w' b zs := hb.trans h
theorem RI.next {w w' : World} {b : Nat} {zs : List Int} (h : RI w b zs) (hb : Below w.heap.size w w') : RI w' b zs := keep_heap hb h
theorem RI.lt {w : World} {b : Nat} {zs : List Int} (h : RI w b zs) : b < w.heap.size := heap_lt h
theorem row_set {w : World} {s : Nat} {cs : List Value} {T : TypeId} {i : Nat} {u : Value} (h : w.heap[s]? = some (.cells cs.toArray T (0, 0))) : (w.setCell ⟨s, i, none⟩ u).heap[s]? = some (.cells (cs.set i u).toArray T (0, 0)) := by
  simp [World.setCell, Array.getElem?_modify, h]
theorem RI.set {w : World} {b : Nat} {zs : List Int} (h : RI w b zs) (i : Nat) (x : Int) : RI (w.setCell ⟨b, i, none⟩ (.int .i64 x)) b (zs.set i x) := by
  unfold RI iv
  rw [List.map_set]
  exact row_set h
theorem RI.other {w : World} {b g i : Nat} {u : Value} {zs : List Int} (h : RI w b zs) (hg : g ≠ b) : RI (w.setCell ⟨g, i, none⟩ u) b zs :=
  h.keep (Below.heap_setCell w _ u b (by exact fun e => hg e.symm))
theorem RI.rd {w : World} {b : Nat} {zs : List Int} (h : RI w b zs) : RdI w w.heap.size (some ⟨b, 0, none⟩) zs := fun k hk =>
  ⟨b, 0, rfl, h.lt, by rw [Nat.zero_add]; exact h.cell (List.getElem?_eq_getElem hk)⟩
theorem RI.sl {w : World} {b : Nat} {zs : List Int} (h : RI w b zs) (hl : zs.length ≤ 9223372036854775807) : SlI w (some ⟨b, 0, none⟩) zs.length zs := ⟨h.rd, Nat.le_refl _, hl, fun h => by cases h⟩
theorem RI.made (w : World) (n : Nat) : RI (w.alloc (.cells (madeCells #[.int .i64 0] n) 3)) w.heap.size (List.replicate n 0) := by
  unfold RI
  rw [heap_alloc_new]
  have e : madeCells #[Value.int .i64 0] n = (iv (List.replicate n 0)).toArray := by
    apply Array.toList_inj.1
    rw [toList_madeCells_one]
    simp [iv]
  rw [e]
theorem RI.lit (w : World) (zs : List Int) : RI (w.alloc (.cells (iv zs).toArray 3)) w.heap.size zs := heap_alloc_new w _
/-- a row of the call's own, with a given room -/
def OwC (w : World) (base g cap : Nat) (zs : List Int) : Prop := w.ownsRow base 3 1 (.slice (some ⟨g, 0, none⟩) zs.length cap) zs.length (iv zs)
/-- nil, or a row of the call's own -/
def OwnI (w : World) (base : Nat) (v : Value) (l : List Int) : Prop := w.ownsRow base 3 1 v l.length (iv l)
theorem OwnI.next {w w' : World} {base : Nat} {v : Value} {l : List Int} (h : OwnI w base v l) (kk : Below w.heap.size w w') : OwnI w' base v l := own_next h kk
theorem OwnI.le {w : World} {base base' : Nat} {v : Value} {l : List Int} (h : OwnI w base v l) (hb : base' ≤ base) : OwnI w base' v l := own_le h hb
theorem own_rd {w : World} {base n : Nat} {v : Value} {zs : List Int} (h : w.ownsRow base 3 1 v n (iv zs)) (hn : zs.length = n) : ∃ A c, v = .slice A n c ∧ n ≤ c ∧ c ≤ 9223372036854775807 ∧ RdI w w.heap.size A zs ∧ (A = none → c = 0) := by
  rcases h.2 with ⟨hv, hn0⟩ | ⟨g, cap, cur, hv, hb, hg, hnc, hcm, hcs, ht⟩
  · subst hn0
    have : zs = [] := List.eq_nil_of_length_eq_zero hn
    subst this
    exact ⟨none, 0, hv, Nat.le_refl _, by omega, RdI.nil, fun _ => rfl⟩
  · refine ⟨_, _, hv, hnc, by unfold maxLen at hcm; omega, fun k hk => ⟨g, 0, rfl, heap_lt hg, ?_⟩, fun h => by cases h⟩
    have := h.cells (g := g) (by rw [hv]; rfl) k (.int .i64 zs[k]) (by simp [iv, hk])
    rwa [add_plain] at this
theorem OwnI.sl {w : World} {base : Nat} {v : Value} {l : List Int} (h : OwnI w base v l) : ∃ A c, v = .slice A l.length c ∧ SlI w A c l := by
  obtain ⟨A, c, hv, hc, hm, hr, hn⟩ := own_rd h rfl
  exact ⟨A, c, hv, hr, hc, hm, hn⟩
theorem OwC.sl {w : World} {base g cap : Nat} {zs : List Int} (h : OwC w base g cap zs) : SlI w (some ⟨g, 0, none⟩) cap zs := by
  obtain ⟨A, c, hv, hc, hm, hr, hn⟩ := own_rd h rfl
  injection hv with e1 _ e3
  subst e1; subst e3
  exact ⟨hr, hc, hm, hn⟩
theorem own_nil (w : World) (base : Nat) : OwnI w base (.slice none 0 0) [] := World.ownsRow_nil w base 3 1
theorem owc_made (w : World) (n : Nat) (h : n ≤ 100000) : OwC (w.alloc (.cells (madeCells #[.int .i64 0] n) 3)) w.heap.size w.heap.size n [] :=
  World.ownsRow_made w _ n (Nat.le_refl _) (by simp [maxLen]; omega) (by rw [size_madeCells]; simp)
theorem make_ints (x y : Int) (m n : Nat) (ex : x = m) (ey : y = n) (hmn : m ≤ n) (h : n ≤ 100000) (w : World) :
    (Instr.makeSlice 22 (.int .i64 x) (.int .i64 y)).run Try.prog w = .ok (.slice (some ⟨w.heap.size, 0, none⟩) m n) (w.alloc (.cells (madeCells #[.int .i64 0] n) 3)) := by
  subst ex; subst ey
  obtain ⟨i, hi, h1⟩ := Option.map_eq_some_iff.1 info3
  simp only [Prod.mk.injEq] at h1
  obtain ⟨hz, hs, hb⟩ := h1
  have := run_make (P := Try.prog) w 22 3 i _ Try.underlying22 hi hz .i64 .i64 m n (by omega) (by omega) (by rw [hb]; omega) (by omega)
  rw [hs, Nat.mul_one] at this
  simp only [Int.toNat_natCast] at this
  exact this
/-- one number is appended within the room -/
theorem wp_fit {w : World} {ops : Array Oper} {rest : List Oper} {o : Oper} {a : Act} {Q : Exit → Act → World → Prop} (hgd : o.guard = none) (s x : Operand) (ho : o.op = .call { callee := .builtin .append, args := #[s, x], argTypes := #[22, 22] })
    (base g n cap : Nat) (zs : List Int) (hs : a.eval s = .slice (some ⟨g, 0, none⟩) n cap) (hn : n = zs.length) (hown : OwC w base g cap zs) (b c : Nat) (k : Int) (hx : a.eval x = .slice (some ⟨b, 0, none⟩) 1 c) (hk : w.cell? ⟨b, 0, none⟩ = some (.int .i64 k)) (hroom : n + 1 ≤ cap) (hbase : base ≤ w.heap.size)
    (h : ∀ w', Hid (OwC w' base g cap (zs ++ [k])) → Hid (Below base w w') → Hid (w.grownBy w' (some g)) → wpList Try.prog ops Q rest (a.put o.dst (.slice (some ⟨g, 0, none⟩) (n + 1) cap)) w') : wpList Try.prog ops Q (o :: rest) a w := by
  subst hn
  refine wpList_plain hgd fun K hK => ?_
  obtain ⟨i0, hi0, hz0, hz1, hz2⟩ := info_parts info3
  obtain ⟨w', hr, h2, h3⟩ := run_append_fits (P := Try.prog) w base 22 o.type 3 i0 1 Try.underlying22 hi0 hz1 g zs.length cap (iv zs) hown ⟨b, 0, none⟩ 1 c [.int .i64 k] rfl (fun j u hj => by
    cases j with
    | zero => injection hj with hj; subst hj; rw [add_plain]; exact hk
    | succ j => simp at hj) (fun u hu => by simp at hu; subst hu; rfl) hroom
  unfold Oper.wp execOp
  simp only [ho, resolve, invoke, builtin, Sem.run_bind, Sem.run_pure, Result.andThen_ok, List.map_toArray, List.map_cons, List.map_nil, hs, hx, hr]
  have e : iv (zs ++ [k]) = iv zs ++ [.int .i64 k] := by simp [iv]
  exact hK _ _ (h w' (Lib.hid (by unfold OwC; rw [e, List.length_append]; exact h2)) (Lib.hid ((Below.refl _ _).grown h3 hbase (fun j e => by
    injection e with e
    subst e
    exact (World.ownsRow.lt hown g rfl).1))) (Lib.hid h3))
/-- numbers are appended -/
theorem SlI.news {w : World} {ad : Addr} {c : Nat} {l : List Int} (h : SlI w (some ad) c l) : ∀ j u, (iv l)[j]? = some u → w.cell? (ad.add j) = some u := by
  intro j u hu
  have hj := (List.getElem?_eq_some_iff.1 hu).1
  rw [iv_len] at hj
  obtain ⟨b, o, e, _, hc⟩ := h.rd j hj
  injection e with e
  subst e
  rw [add_plain, hc, ← hu]
  simp [iv, hj]
theorem run_app {w : World} (ty : TypeId) {base : Nat} {v : Value} {l : List Int} (hown : OwnI w base v l) {A : Option Addr} {c : Nat} {ms : List Int} (hs : SlI w A c ms)
    (hlen : l.length + ms.length ≤ 1000000) (hbase : base ≤ w.heap.size) :
    ∃ v' w', (Builtin.append_ #[22, 22] ty #[v, .slice A ms.length c]).run Try.prog w = .ok v' w' ∧ OwnI w' base v' (l ++ ms) ∧ Below base w w' ∧ w.grownBy w' v.ownBlock := by
  obtain ⟨i0, hi0, hz0, hz1, hz2⟩ := info_parts info3
  have hown' : w.ownsRow base 3 1 v l.length (iv l) := hown
  cases hA : A with
  | none =>
    have hc := hs.nil hA
    have hle := hs.le
    obtain rfl : ms = [] := List.eq_nil_of_length_eq_zero (by omega)
    subst hc
    have hrun := run_append_owned_none (P := Try.prog) (w := w) base 22 ty 3 i0 1 Try.underlying22 hi0 v _ _ hown'
    exact ⟨v, w, hrun, by rw [List.append_nil]; exact hown, Below.refl _ _, World.grownBy.refl _ _⟩
  | some ad =>
    subst hA
    obtain ⟨v', w', h1, h2, h3, _, _⟩ := run_append_own_at (P := Try.prog) w base 22 ty 3 i0 (.int .i64 0) 1 8 Try.underlying22 hi0 hz0 hz1 hz2 rfl (by omega) v _ _ hown' ad ms.length c (iv ms) (by rw [iv_len]; omega) hs.news (iv_one _)
      (by simp [maxLen]; omega) (by omega) hbase
    exact ⟨v', w', h1, by unfold OwnI; rw [iv_app, List.length_append]; exact h2, (Below.refl _ _).grown h3 hbase (fun j e => (hown'.lt j e).1), h3⟩
theorem wp_app {w : World} {ops : Array Oper} {rest : List Oper} {o : Oper} {a : Act} {Q : Exit → Act → World → Prop} (hgd : o.guard = none) (s x : Operand) (ho : o.op = .call { callee := .builtin .append, args := #[s, x], argTypes := #[22, 22] })
    (base : Nat) (v : Value) (l : List Int) (hs : a.eval s = v) (A : Option Addr) (c : Nat) (ms : List Int) (n : Nat) (hx : a.eval x = .slice A n c) (hn : n = ms.length) (hown : OwnI w base v l) (hsrc : SlI w A c ms) (hlen : l.length + ms.length ≤ 1000000) (hbase : base ≤ w.heap.size)
    (h : ∀ v' w', Hid (OwnI w' base v' (l ++ ms)) → Hid (Below base w w') → Hid (w.grownBy w' v.ownBlock) → wpList Try.prog ops Q rest (a.put o.dst v') w') : wpList Try.prog ops Q (o :: rest) a w := by
  subst hn
  refine wpList_plain hgd fun K hK => ?_
  obtain ⟨v', w', hr, h2, h3, h4⟩ := run_app o.type hown hsrc hlen hbase
  unfold Oper.wp execOp
  simp only [ho, resolve, invoke, builtin, Sem.run_bind, Sem.run_pure, Result.andThen_ok, List.map_toArray, List.map_cons, List.map_nil, hs, hx, hr]
  exact hK _ _ (h v' w' (Lib.hid h2) (Lib.hid h3) (Lib.hid h4))
/-- append, for a region that draws -/
theorem step_app {w : World} {ops : Array Oper} {o : Oper} {a : Act} {K : Act → World → Prop} {Q : Exit → Act → World → Prop} {E : Prop} (hgd : o.guard = none) (s x : Operand) (ho : o.op = .call { callee := .builtin .append, args := #[s, x], argTypes := #[22, 22] })
    (base : Nat) (v : Value) (l : List Int) (hs : a.eval s = v) (A : Option Addr) (c : Nat) (ms : List Int) (n : Nat) (hx : a.eval x = .slice A n c) (hn : n = ms.length) (hown : OwnI w base v l) (hsrc : SlI w A c ms) (hlen : l.length + ms.length ≤ 1000000) (hbase : base ≤ w.heap.size)
    (h : ∀ v' w', Hid (OwnI w' base v' (l ++ ms)) → Hid (Below base w w') → K (a.put o.dst v') w') :
    if Region.wanted o (yielded ops a.tmps) = true then Oper.wp Try.prog o a w K Q else E := by
  subst hn
  have hw : Region.wanted o (yielded ops a.tmps) = true := by simp [Region.wanted, hgd]
  rw [if_pos hw]
  obtain ⟨v', w', hr, h2, h3, _⟩ := run_app o.type hown hsrc hlen hbase
  unfold Oper.wp execOp
  simp only [ho, resolve, invoke, builtin, Sem.run_bind, Sem.run_pure, Result.andThen_ok, List.map_toArray, List.map_cons, List.map_nil, hs, hx, hr]
  exact h v' w' (Lib.hid h2) (Lib.hid h3)
theorem sl_one (W : World) (x : Int) : SlI (W.alloc (.cells #[.int .i64 x] 3)) (some ⟨W.heap.size, 0, none⟩) 1 [x] := by
  have h : RI (W.alloc (.cells #[.int .i64 x] 3)) W.heap.size [x] := RI.lit W [x]
  exact h.sl (by simp)
theorem own_made0 (w : World) : OwnI (w.alloc (.cells #[] 3)) w.heap.size (.slice (some ⟨w.heap.size, 0, none⟩) 0 0) [] := World.ownsRow_made w #[] 0 (Nat.le_refl _) (by simp [maxLen]) rfl
/-- what a function hands back: a row without spare room, and an error; nothing that was there has changed -/
def RowX (r : List Int × Int) (w : World) (e : Ending) (w' : World) : Prop := ∃ A, e = .returned (.tuple #[.slice A r.1.length r.1.length, .int .i64 r.2]) ∧ SlI w' A r.1.length r.1 ∧ Below w.heap.size w w'
theorem rowX_err {f : Int} {w W : World} (hb : Below w.heap.size w W) : RowX ([], f) w (.returned (.tuple #[.slice none 0 0, .int .i64 f])) W := ⟨none, rfl, SlI.none W, hb⟩
theorem rowX_own {l : List Int} {w W : World} {base g n cap : Nat} {f : Int} (h : OwC W base g cap l) (hb : Below w.heap.size w W) (hn : n = l.length) (hc : cap = l.length) : RowX (l, f) w (.returned (.tuple #[.slice (some ⟨g, 0, none⟩) n cap, .int .i64 f])) W := by
  subst hn
  have hs := h.sl
  rw [hc] at hs ⊢
  exact ⟨_, rfl, hs, hb⟩
/-- what a function of the reference hands back: a row -/
def RowR (l : List Int) (w : World) (e : Ending) (w' : World) : Prop := ∃ A c, e = .returned (.slice A l.length c) ∧ SlI w' A c l ∧ Below w.heap.size w w'
theorem rowR_own {l : List Int} {w W : World} {base : Nat} {v : Value} (h : OwnI W base v l) (hb : Below w.heap.size w W) : RowR l w (.returned v) W := by
  obtain ⟨A, c, rfl, hs⟩ := h.sl
  exact ⟨A, c, rfl, hs, hb⟩

--MORE
end Go.Proofs.Ytakgnpmfnechhaa
