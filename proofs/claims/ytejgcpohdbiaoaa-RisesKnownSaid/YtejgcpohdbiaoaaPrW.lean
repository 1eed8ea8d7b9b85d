/- Rows of pairs: made, appended to. -/
import Derived.Test.YtejgcpohdbiaoaaBase
namespace Go.Proofs.Ytejgcpohdbiaoaa
open Go.RowKit

theorem info50 : (Try.prog.info? 50).map (fun i => (i.zero, i.size, i.bytes)) = some (some (.agg #[.int .i64 0, .int .i64 0]), 2, 16) := by kernel_rfl
theorem info52 : (Try.prog.info? 52).map (fun i => (i.zero, i.size, i.bytes)) = some (some (.agg #[.int .i64 0, .int .i64 0]), 2, 16) := by kernel_rfl
theorem pv_one (r : List (Int × Int)) : ∀ u ∈ pv r, u.oneCell' = true := by
  intro u hu
  simp only [pv, List.mem_flatMap, List.mem_cons, List.not_mem_nil, or_false] at hu
  obtain ⟨s, _, rfl | rfl⟩ := hu <;> rfl
/-- a row of steps of the call's own, with a given room -/
def OwK (w : World) (base g cap : Nat) (zs : List (Int × Int)) : Prop := w.ownsRow base 50 2 (.slice (some ⟨g, 0, none⟩) zs.length cap) zs.length (pv zs)
theorem OwK.sl {w : World} {base g cap : Nat} {zs : List (Int × Int)} (h : OwK w base g cap zs) : SlP w (some ⟨g, 0, none⟩) cap zs := by
  obtain ⟨A, c, hv, hs⟩ := OwP.sl (T := 50) h
  injection hv with e1 _ e3
  subst e1; subst e3
  exact hs
theorem rowS_own {l : List (Int × Int)} {w W : World} {base g n cap : Nat} {f : Int} (h : OwK W base g cap l) (hb : Below w.heap.size w W) (hn : n = l.length) (hc : cap = l.length) : RowS (l, f) w (.returned (.tuple #[.slice (some ⟨g, 0, none⟩) n cap, .int .i64 f])) W := by
  subst hn
  have hs := h.sl
  rw [hc] at hs ⊢
  exact ⟨_, rfl, hs, hb⟩
theorem make_steps (x y : Int) (m n : Nat) (ex : x = m) (ey : y = n) (hmn : m ≤ n) (h : n ≤ 100000) (w : World) :
    (Instr.makeSlice 38 (.int .i64 x) (.int .i64 y)).run Try.prog w = .ok (.slice (some ⟨w.heap.size, 0, none⟩) m n) (w.alloc (.cells (madeCells #[.int .i64 0, .int .i64 0] (n * 2)) 50)) := by
  subst ex; subst ey
  obtain ⟨i, hi, h1⟩ := Option.map_eq_some_iff.1 info50
  simp only [Prod.mk.injEq] at h1
  obtain ⟨hz, hs, hb⟩ := h1
  have := run_make (P := Try.prog) w 38 50 i _ Try.underlying38 hi hz .i64 .i64 m n (by omega) (by omega) (by rw [hb]; omega) (by omega)
  rw [hs] at this
  simp only [Int.toNat_natCast] at this
  exact this
theorem owk_made (w : World) (n : Nat) (h : n ≤ 100000) : OwK (w.alloc (.cells (madeCells #[.int .i64 0, .int .i64 0] (n * 2)) 50)) w.heap.size w.heap.size n [] :=
  World.ownsRow_made w _ n (Nat.le_refl _) (by simp [maxLen]; omega) (by rw [size_madeCells])
/-- one pair is appended within the room -/
theorem wp_fitP {w : World} {ops : Array Oper} {rest : List Oper} {o : Oper} {a : Act} {Q : Exit → Act → World → Prop} (hgd : o.guard = none) (s x : Operand) (ho : o.op = .call { callee := .builtin .append, args := #[s, x], argTypes := #[38, 38] })
    (base g n cap : Nat) (zs : List (Int × Int)) (hs : a.eval s = .slice (some ⟨g, 0, none⟩) n cap) (hn : n = zs.length) (hown : OwK w base g cap zs) (b c : Nat) (k y : Int) (hx : a.eval x = .slice (some ⟨b, 0, none⟩) 1 c) (hk : w.cell? ⟨b, 0, none⟩ = some (.int .i64 k)) (hy : w.cell? ⟨b, 1, none⟩ = some (.int .i64 y)) (hroom : n + 1 ≤ cap) (hbase : base ≤ w.heap.size)
    (h : ∀ w', Hid (OwK w' base g cap (zs ++ [(k, y)])) → Hid (Below base w w') → Hid (w.grownBy w' (some g)) → wpList Try.prog ops Q rest (a.put o.dst (.slice (some ⟨g, 0, none⟩) (n + 1) cap)) w') : wpList Try.prog ops Q (o :: rest) a w := by
  subst hn
  refine wpList_plain hgd fun K hK => ?_
  obtain ⟨i0, hi0, hz0, hz1, hz2⟩ := info_parts info50
  obtain ⟨w', hr, h2, h3⟩ := run_append_fits (P := Try.prog) w base 38 o.type 50 i0 2 Try.underlying38 hi0 hz1 g zs.length cap (pv zs) hown ⟨b, 0, none⟩ 1 c [.int .i64 k, .int .i64 y] rfl (fun j u hj => by
    match j, hj with
    | 0, hj => injection hj with hj; subst hj; rw [add_plain]; exact hk
    | 1, hj => injection hj with hj; subst hj; rw [add_plain]; exact hy) (fun u hu => by simp at hu; rcases hu with rfl | rfl <;> rfl) hroom
  unfold Oper.wp execOp
  simp only [ho, resolve, invoke, builtin, Sem.run_bind, Sem.run_pure, Result.andThen_ok, List.map_toArray, List.map_cons, List.map_nil, hs, hx, hr]
  have e : pv (zs ++ [(k, y)]) = pv zs ++ [.int .i64 k, .int .i64 y] := by simp [pv]
  exact hK _ _ (h w' (Lib.hid (by unfold OwK; rw [e, List.length_append]; exact h2)) (Lib.hid ((Below.refl _ _).grown h3 hbase (fun j e => by
    injection e with e
    subst e
    exact (World.ownsRow.lt hown g rfl).1))) (Lib.hid h3))
/-- one pair is appended to what may be nil: the reference's steps -/
theorem wp_appR {w : World} {ops : Array Oper} {rest : List Oper} {o : Oper} {a : Act} {Q : Exit → Act → World → Prop} (hgd : o.guard = none) (s x : Operand) (ho : o.op = .call { callee := .builtin .append, args := #[s, x], argTypes := #[43, 43] })
    (base : Nat) (v : Value) (zs : List (Int × Int)) (hs : a.eval s = v) (hown : OwP 52 w base v zs) (b c : Nat) (k y : Int) (hx : a.eval x = .slice (some ⟨b, 0, none⟩) 1 c) (hk : w.cell? ⟨b, 0, none⟩ = some (.int .i64 k)) (hy : w.cell? ⟨b, 1, none⟩ = some (.int .i64 y)) (hlen : zs.length ≤ 100000) (hbase : base ≤ w.heap.size)
    (h : ∀ v' w', Hid (OwP 52 w' base v' (zs ++ [(k, y)])) → Hid (Below base w w') → wpList Try.prog ops Q rest (a.put o.dst v') w') : wpList Try.prog ops Q (o :: rest) a w := by
  refine wpList_plain hgd fun K hK => ?_
  obtain ⟨i0, hi0, hz0, hz1, hz2⟩ := info_parts info52
  obtain ⟨v', w', hr, h2, h3, _, _⟩ := run_append_own_at (P := Try.prog) w base 43 o.type 52 i0 (.agg #[.int .i64 0, .int .i64 0]) 2 16 Try.underlying43 hi0 hz0 hz1 hz2 rfl (by omega) v _ _ hown ⟨b, 0, none⟩ 1 c [.int .i64 k, .int .i64 y] rfl (fun j u hj => by
    match j, hj with
    | 0, hj => injection hj with hj; subst hj; rw [add_plain]; exact hk
    | 1, hj => injection hj with hj; subst hj; rw [add_plain]; exact hy) (fun u hu => by simp at hu; rcases hu with rfl | rfl <;> rfl) (by simp [maxLen]; omega) (by omega) hbase
  unfold Oper.wp execOp
  simp only [ho, resolve, invoke, builtin, Sem.run_bind, Sem.run_pure, Result.andThen_ok, List.map_toArray, List.map_cons, List.map_nil, hs, hx, hr]
  have e : pv (zs ++ [(k, y)]) = pv zs ++ [.int .i64 k, .int .i64 y] := by simp [pv]
  exact hK _ _ (h v' w' (Lib.hid (by unfold OwP; rw [e, List.length_append]; exact h2)) (Lib.hid ((Below.refl _ _).grown h3 hbase (fun j e => (World.ownsRow.lt hown j e).1))))
/-- a literal pair's cells -/
theorem pair_new (w : World) (T : TypeId) (x y : Int) : (w.alloc (.cells #[.int .i64 x, .int .i64 y] T)).cell? ⟨w.heap.size, 0, none⟩ = some (.int .i64 x) ∧ (w.alloc (.cells #[.int .i64 x, .int .i64 y] T)).cell? ⟨w.heap.size, 1, none⟩ = some (.int .i64 y) :=
  ⟨cell_of_row _ _ 0 _ T (0, 0) (heap_alloc_new w _), cell_of_row _ _ 1 _ T (0, 0) (heap_alloc_new w _)⟩
end Go.Proofs.Ytejgcpohdbiaoaa
