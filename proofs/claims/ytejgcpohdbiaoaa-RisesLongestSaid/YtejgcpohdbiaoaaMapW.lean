/- A map from ints to ints, as a function. -/
import Derived.Test.YtejgcpohdbiaoaaBase
import Derived.Maps.Ext
import Derived.Maps.OwnSet
namespace Go.Proofs.Ytejgcpohdbiaoaa
open Go.RowKit Go.Maps

theorem key3 : Keyed Try.prog 3 := int_keyed Try.underlying3
theorem zero3 (w : World) : (zeroValue 3).run Try.prog w = .ok (.int .i64 0) w := by kernel_rfl
def I64 (x : Int) : Prop := -9223372036854775808 ≤ x ∧ x ≤ 9223372036854775807
theorem wf_of {x : Int} (h : I64 x) : (Lit.int .i64 x).wf = true := by
  unfold I64 at h
  simp [Lit.wf, IntKind.min, IntKind.max, IntKind.signed, IntKind.bits]
  omega
/-- the map at block b: at most n keys, f tells what is at each -/
def MpI (w : World) (b n : Nat) (f : Int → Option Int) : Prop :=
  ∃ D : DataW Unit, w.ownsMap Try.prog 3 (plainElem Try.prog 3) b n D ∧ IsMap D ∧ ∀ x : Int, I64 x → has D (.int .i64 x) = (f x).isSome ∧ D.atKey (.int .i64 x) (.lit (.int .i64 0)) = .lit (.int .i64 ((f x).getD 0))
theorem MpI.lt {w : World} {b n : Nat} {f : Int → Option Int} (h : MpI w b n f) : b < w.heap.size := by
  obtain ⟨D, h1, _⟩ := h
  exact h1.lt
theorem MpI.keep {w w' : World} {b n : Nat} {f : Int → Option Int} (h : MpI w b n f) (hb : w'.heap[b]? = w.heap[b]?) : MpI w' b n f := by
  obtain ⟨D, ⟨es, clock, h1, h2⟩, h3⟩ := h
  exact ⟨D, ⟨es, clock, hb.trans h1, h2⟩, h3⟩
theorem MpI.next {w w' : World} {b n : Nat} {f : Int → Option Int} (h : MpI w b n f) (hb : Below w.heap.size w w') : MpI w' b n f := h.keep (hb.block b h.lt)
theorem MpI.made (w : World) : MpI (w.alloc (.map #[] 0)) w.heap.size 0 fun _ => none :=
  ⟨.map [], World.ownsMap_made w _ _ _, isMap_empty, fun _ _ => ⟨rfl, rfl⟩⟩
theorem run_make61 (x : Int) (n : Nat) (e : x = n) (w : World) : (Instr.makeMap 61 (some (.int .i64 x))).run Try.prog w = .ok (.map (some w.heap.size)) (w.alloc (.map #[] 0)) := by
  subst e
  simp [Instr.makeMap, asInt, asIntOf, Result.andThen]
section
variable {w : World} {ops : Array Oper} {rest : List Oper} {o : Oper} {a : Act} {Q : Exit → Act → World → Prop}
/-- v, ok := m[k], where the key is there -/
theorem wp_there (hg : o.guard = none) (m x : Operand) (hop : o.op = Op.lookup 61 m x true) (b n : Nat) (f : Int → Option Int) (hm : a.eval m = .map (some b)) (h : MpI w b n f) (k y : Int) (hx : a.eval x = .int .i64 k) (hk : I64 k) (hf : f k = some y)
    (hK : wpList Try.prog ops Q rest (a.put o.dst (.tuple #[.int .i64 y, .bool true])) w) : wpList Try.prog ops Q (o :: rest) a w := by
  obtain ⟨D, h1, _, h3⟩ := h
  obtain ⟨g1, g2⟩ := h3 k hk
  rw [hf] at g1 g2
  refine wpList_lookup_own_ok_int w hg m x 61 hop 3 3 .i64 key3 Try.underlying61 Try.underlying3 (zero3 w) b n D hm h1 _ (.int .i64 k) hx (keyOf_int_mk Try.underlying3 (wf_of hk)) fun c hc _ => ?_
  rw [g2] at hc
  have e : c = y := by simpa using hc.symm
  rw [e, g1]
  exact hK
/-- where it is not -/
theorem wp_gone (hg : o.guard = none) (m x : Operand) (hop : o.op = Op.lookup 61 m x true) (b n : Nat) (f : Int → Option Int) (hm : a.eval m = .map (some b)) (h : MpI w b n f) (k : Int) (hx : a.eval x = .int .i64 k) (hk : I64 k) (hf : f k = none)
    (hK : wpList Try.prog ops Q rest (a.put o.dst (.tuple #[.int .i64 0, .bool false])) w) : wpList Try.prog ops Q (o :: rest) a w := by
  obtain ⟨D, h1, _, h3⟩ := h
  obtain ⟨g1, g2⟩ := h3 k hk
  rw [hf] at g1 g2
  refine wpList_lookup_own_ok_int w hg m x 61 hop 3 3 .i64 key3 Try.underlying61 Try.underlying3 (zero3 w) b n D hm h1 _ (.int .i64 k) hx (keyOf_int_mk Try.underlying3 (wf_of hk)) fun c hc _ => ?_
  rw [g2] at hc
  have e : c = 0 := by simpa using hc.symm
  rw [e, g1]
  exact hK
/-- v, ok := m[k], whatever is there -/
theorem wp_any (hg : o.guard = none) (m x : Operand) (hop : o.op = Op.lookup 61 m x true) (b n : Nat) (f : Int → Option Int) (hm : a.eval m = .map (some b)) (h : MpI w b n f) (k : Int) (hx : a.eval x = .int .i64 k) (hk : I64 k)
    (hK : ∀ (y : Int) (t : Bool), wpList Try.prog ops Q rest (a.put o.dst (.tuple #[.int .i64 y, .bool t])) w) : wpList Try.prog ops Q (o :: rest) a w := by
  cases hf : f k with
  | none => exact wp_gone hg m x hop b n f hm h k hx hk hf (hK _ _)
  | some y => exact wp_there hg m x hop b n f hm h k y hx hk hf (hK _ _)
/-- m[k] = v -/
theorem wp_store (hg : o.guard = none) (m x v : Operand) (hop : o.op = Op.mapUpdate 61 m x v) (b n : Nat) (f : Int → Option Int) (hm : a.eval m = .map (some b)) (h : MpI w b n f) (hn : n ≤ 100000) (k y : Int) (hx : a.eval x = .int .i64 k) (hv : a.eval v = .int .i64 y) (hk : I64 k) (hy : I64 y)
    (hK : ∀ w', Hid (MpI w' b (n + 1) fun z => if z = k then some y else f z) → Hid (w.grownBy w' (some b)) → wpList Try.prog ops Q rest (a.put o.dst undef) w') : wpList Try.prog ops Q (o :: rest) a w := by
  obtain ⟨D, h1, h2, h3⟩ := h
  refine wpList_mapUpdate_own w hg m x v 61 hop 3 3 key3 Try.underlying61 _ b n D hm h1 (by unfold maxLen; omega) _ _ (.int .i64 k) hx hv (keyOf_int_mk Try.underlying3 (wf_of hk)) (.lit (.int .i64 y)) [] (plainElem_int Try.underlying3 (wf_of hy)) fun w' g1 g2 => ?_
  have hkk : WideAt.IsKeyLit (.int .i64 k) := key3.key (keyOf_int_mk (P := Try.prog) Try.underlying3 (wf_of hk))
  refine hK w' (Lib.hid ⟨_, g1, h2.put _ _, fun z hz => ?_⟩) (Lib.hid g2)
  show _ = (if z = k then some y else f z).isSome ∧ _ = DataW.lit (Lit.int .i64 ((if z = k then some y else f z).getD 0))
  by_cases e : z = k
  · subst e
    rw [if_pos rfl, has_put_same h2 hkk, atKey_put_same h2 hkk]
    exact ⟨rfl, rfl⟩
  · rw [if_neg e]
    have hne : (Lit.int .i64 z) ≠ (.int .i64 k) := fun e2 => e (by injection e2)
    rw [has_put_other hne, atKey_put_other hne]
    exact h3 z hz
end
end Go.Proofs.Ytejgcpohdbiaoaa
