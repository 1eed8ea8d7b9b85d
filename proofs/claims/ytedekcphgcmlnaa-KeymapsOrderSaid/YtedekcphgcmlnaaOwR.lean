/- The region that makes the steps of both. -/
import Derived.Test.YtedekcphgcmlnaaOwT
import Derived.Test.YtedekcphgcmlnaaOrdA
namespace Go.Proofs.Ytedekcphgcmlnaa
open Go.RowKit

theorem OwnT.keep {w w' : World} {base : Nat} {v : Value} {l : List St} (h : OwnT w base v l) (hb : ∀ g, v.ownBlock = some g → w'.heap[g]? = w.heap[g]?) : OwnT w' base v l := by
  refine ⟨h.1, ?_⟩
  rcases h.2 with h2 | ⟨g, cap, cur, hv, hg, hgr, r⟩
  · exact .inl h2
  · exact .inr ⟨g, cap, cur, hv, hg, (hb g (by rw [hv]; rfl)).trans hgr, r⟩
theorem OwnT.next {w w' : World} {base : Nat} {v : Value} {l : List St} (h : OwnT w base v l) (hb : Below w.heap.size w w') : OwnT w' base v l := own_next h hb
theorem OwnT.low {w : World} {base base' : Nat} {v : Value} {l : List St} (h : OwnT w base v l) (hb : base' ≤ base) : OwnT w base' v l := by
  refine ⟨h.1, ?_⟩
  rcases h.2 with h2 | ⟨g, cap, cur, hv, hg, r⟩
  · exact .inl h2
  · exact .inr ⟨g, cap, cur, hv, Nat.le_trans hb hg, r⟩
/-- the row so far, and the variable if it has been made -/
structure RG (V W : World) (v : Value) (l : List St) (z : Option Nat) : Prop where
  own : OwnT W V.heap.size v l
  u : Below V.heap.size V W
  box : ∀ g, z = some g → W.heap[g]? = some (.cells #[.slice none 0 0] 45 (0, 0)) ∧ v.ownBlock ≠ some g ∧ V.heap.size ≤ g
theorem RG.drew {V W : World} {v : Value} {l : List St} {z : Option Nat} (h : RG V W v l z) : RG V W.drew v l z := ⟨h.own, h.u.drew, h.box⟩
theorem RG.alloc {V W : World} {v : Value} {l : List St} (h : RG V W v l none) : RG V (W.alloc (.cells #[.slice none 0 0] 45)) v l (some W.heap.size) :=
  ⟨h.own.next ((Below.refl _ _).alloc (Nat.le_refl _) _), h.u.alloc h.u.size _, fun g hg => by
    obtain rfl : W.heap.size = g := by injection hg
    refine ⟨new_at _ rfl, fun e => ?_, h.u.size⟩
    exact absurd (World.ownsRow.lt h.own _ e).2 (Nat.lt_irrefl _)⟩
theorem RG.cellz {V W : World} {v : Value} {l : List St} {g : Nat} (h : RG V W v l (some g)) : W.cell? ⟨g, 0, none⟩ = some (.slice none 0 0) ∧ W.frozen? ⟨g, 0, none⟩ = false :=
  ⟨cell_of_row _ _ 0 _ 45 (0, 0) (h.box g rfl).1, frozen_of_row W g 0 _ 45 (h.box g rfl).1⟩
theorem RG.made (V : World) : RG V (V.alloc (.cells #[] 29)) (.slice (some ⟨V.heap.size, 0, none⟩) 0 0) [] none :=
  ⟨madeT0 V, (Below.refl _ _).alloc (Nat.le_refl _) _, fun g h => by cases h⟩
theorem RG.madeZ (V : World) : RG V ((V.alloc (.cells #[.slice none 0 0] 45)).alloc (.cells #[] 29)) (.slice (some ⟨V.heap.size + 1, 0, none⟩) 0 0) [] (some V.heap.size) := by
  have hz : (V.alloc (.cells #[.slice none 0 0] 45)).heap.size = V.heap.size + 1 := by simp
  have hb : Below V.heap.size V (V.alloc (.cells #[.slice none 0 0] 45)) := (Below.refl _ _).alloc (Nat.le_refl _) _
  refine ⟨?_, hb.alloc hb.size _, fun g hg => ?_⟩
  · have := (madeT0 (V.alloc (.cells #[.slice none 0 0] 45))).low hb.size
    rwa [hz] at this
  · obtain rfl : V.heap.size = g := by injection hg
    refine ⟨?_, fun e => ?_, Nat.le_refl _⟩
    · rw [Below.heap_alloc _ _ _ (by rw [hz]; omega)]
      exact new_at _ rfl
    · have e2 : some (V.heap.size + 1) = some V.heap.size := e
      injection e2 with e2
      omega
theorem run_appG {V w : World} (ty : TypeId) {v : Value} {l : List St} {z : Option Nat} (h : RG V w v l z) {A : Option Addr} {c : Nat} {ms : List St} (hs : ∀ W, Below V.heap.size V W → SlT W A c ms) (hnil : A = none → c = 0) (hlen : l.length + ms.length ≤ 1000000) :
    ∃ v' w', (Builtin.append_ #[22, 22] ty #[v, .slice A ms.length c]).run Try.prog w = .ok v' w' ∧ RG V w' v' (l ++ ms) z := by
  have hs := hs w h.u
  have hbase := h.u.size
  obtain ⟨i0, hi0, hz0, hz1, hz2⟩ := info_parts Try.info29
  have hown' : w.ownsRow V.heap.size 29 3 v l.length (tv l) := h.own
  cases hA : A with
  | none =>
    have hc := hnil hA
    have hle := hs.le
    obtain rfl : ms = [] := List.eq_nil_of_length_eq_zero (by omega)
    subst hc
    have hrun := run_append_owned_none (P := Try.prog) (w := w) V.heap.size 22 ty 29 i0 3 Try.underlying22 hi0 v _ _ hown'
    exact ⟨v, w, hrun, by rw [List.append_nil]; exact h⟩
  | some ad =>
    subst hA
    obtain ⟨v', w', h1, h2, h3, _, h5⟩ := run_append_own_at (P := Try.prog) w V.heap.size 22 ty 29 i0 (.agg #[.int .u64 0, .int .i64 0, .bool false]) 3 24 Try.underlying22 hi0 hz0 hz1 hz2 rfl (by omega) v _ _ hown' ad ms.length c (tv ms) (tv_len ms) hs.news (tv_one _)
      (by simp [maxLen]; omega) (by omega) hbase
    refine ⟨v', w', h1, ⟨by unfold OwnT; rw [tv_app, List.length_append]; exact h2, h.u.trans ((Below.refl _ _).grown h3 hbase (fun j e => (hown'.lt j e).1)), fun g hg => ?_⟩⟩
    obtain ⟨q1, q2, q3⟩ := h.box g hg
    have hgl := heap_lt q1
    refine ⟨(h3.block g hgl (fun e => q2 e.symm)).trans q1, fun e => ?_, q3⟩
    rcases h5 with h5 | h5
    · exact q2 (h5 ▸ e)
    · rw [h5] at e
      injection e with e
      omega
/-- append, for a region that draws -/
theorem step_appG {w : World} {ops : Array Oper} {o : Oper} {a : Act} {K : Act → World → Prop} {Q : Exit → Act → World → Prop} {E : Prop} (hgd : o.guard = none) (s x : Operand) (ho : o.op = .call { callee := .builtin .append, args := #[s, x], argTypes := #[22, 22] })
    (V : World) (v : Value) (l : List St) (z : Option Nat) (hs : a.eval s = v) (A : Option Addr) (c : Nat) (ms : List St) (n : Nat) (hx : a.eval x = .slice A n c) (hn : n = ms.length) (hown : RG V w v l z) (hsrc : ∀ W, Below V.heap.size V W → SlT W A c ms) (hnil : A = none → c = 0) (hlen : l.length + ms.length ≤ 1000000)
    (h : ∀ v' w', Hid (RG V w' v' (l ++ ms) z) → K (a.put o.dst v') w') :
    if Region.wanted o (yielded ops a.tmps) = true then Oper.wp Try.prog o a w K Q else E := by
  subst hn
  have hw : Region.wanted o (yielded ops a.tmps) = true := by simp [Region.wanted, hgd]
  rw [if_pos hw]
  obtain ⟨v', w', hr, h2⟩ := run_appG o.type hown hsrc hnil hlen
  unfold Oper.wp execOp
  simp only [ho, resolve, invoke, builtin, Sem.run_bind, Sem.run_pure, Result.andThen_ok, List.map_toArray, List.map_cons, List.map_nil, hs, hx, hr]
  exact h v' w' (Lib.hid h2)
/-- the variable that holds the steps -/
structure Fin (V W : World) (g : Nat) (A : Option Addr) (c : Nat) (l : List St) : Prop where
  box : W.heap[g]? = some (.cells #[.slice A l.length c] 45 (0, 0))
  sl : SlT W A c l
  u : Below V.heap.size V W
theorem RG.put {V W : World} {A : Option Addr} {n c g : Nat} {l : List St} (h : RG V W (.slice A n c) l (some g)) (hn : l.length = n) : Fin V (W.setCell ⟨g, 0, none⟩ (.slice A n c)) g A c l := by
  obtain ⟨q1, q2, q3⟩ := h.box g rfl
  have ho : OwnT (W.setCell ⟨g, 0, none⟩ (.slice A n c)) V.heap.size (.slice A n c) l := h.own.keep (fun g' e => Below.heap_setCell _ _ _ g' (fun e2 => q2 (e.trans (congrArg some e2))))
  obtain ⟨A', c', e, hs, _⟩ := ho.sl
  obtain ⟨rfl, _, rfl⟩ : A = A' ∧ n = l.length ∧ c = c' := by injection e with e1 e2 e3; exact ⟨e1, e2, e3⟩
  refine ⟨?_, hs, h.u.setCell q3 _⟩
  rw [hn]
  simp [World.setCell, Array.getElem?_modify, q1]
theorem RG.new {V W : World} {A : Option Addr} {n c : Nat} {l : List St} (h : RG V W (.slice A n c) l none) (hn : l.length = n) : Fin V (W.alloc (.cells #[.slice A n c] 45)) W.heap.size A c l := by
  have ho : OwnT (W.alloc (.cells #[.slice A n c] 45)) V.heap.size (.slice A n c) l := h.own.next ((Below.refl _ _).alloc (Nat.le_refl _) _)
  obtain ⟨A', c', e, hs, _⟩ := ho.sl
  obtain ⟨rfl, _, rfl⟩ : A = A' ∧ n = l.length ∧ c = c' := by injection e with e1 e2 e3; exact ⟨e1, e2, e3⟩
  refine ⟨?_, hs, h.u.alloc h.u.size _⟩
  rw [hn]
  exact new_at _ rfl
theorem Fin.drew {V W : World} {A : Option Addr} {c g : Nat} {l : List St} (h : Fin V W g A c l) : Fin V W.drew g A c l := ⟨h.box, h.sl.below (Below.refl _ _).drew, h.u.drew⟩
end Go.Proofs.Ytedekcphgcmlnaa
