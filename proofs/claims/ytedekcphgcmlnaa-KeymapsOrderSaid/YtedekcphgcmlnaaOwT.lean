/- Steps: rows of three cells; append. -/
import Derived.Test.YtedekcphgcmlnaaOpT
import Derived.Test.YtedekcphgcmlnaaPaiA
namespace Go.Proofs.Ytedekcphgcmlnaa
open Go.ChangeShapes Go.WideShapes Go.ChangeAt Go.RowKit Go.Deep

theorem Try.info29 : (Try.prog.info? 29).map (fun i => (i.zero, i.size, i.bytes)) = some (some (.agg #[.int .u64 0, .int .i64 0, .bool false]), 3, 24) := by kernel_rfl
/-- steps as cells -/
def tv (r : List St) : List Value := r.flatMap fun s => [.int .u64 s.key, .int .i64 s.v, .bool s.drop]
theorem tv_len (r : List St) : (tv r).length = r.length * 3 := by
  induction r with
  | nil => rfl
  | cons s r ih => simp [tv] at ih ⊢; omega
theorem tv_app (a b : List St) : tv (a ++ b) = tv a ++ tv b := by simp [tv]
theorem tv_one (r : List St) : ∀ u ∈ tv r, u.oneCell' = true := by
  intro u hu
  simp only [tv, List.mem_flatMap, List.mem_cons, List.not_mem_nil, or_false] at hu
  obtain ⟨s, _, rfl | rfl | rfl⟩ := hu <;> rfl
theorem tv_get (r : List St) (k : Nat) (h : k < r.length) : (tv r)[k * 3]? = some (.int .u64 r[k].key) ∧ (tv r)[k * 3 + 1]? = some (.int .i64 r[k].v) ∧ (tv r)[k * 3 + 2]? = some (.bool r[k].drop) := by
  induction r generalizing k with
  | nil => simp at h
  | cons s r ih =>
    have e0 : tv (s :: r) = .int .u64 s.key :: .int .i64 s.v :: .bool s.drop :: tv r := rfl
    cases k with
    | zero => simp [e0]
    | succ k =>
      have h' : k < r.length := by simpa using h
      have e : (k + 1) * 3 = k * 3 + 1 + 1 + 1 := by omega
      rw [e0, e]
      simp only [List.getElem?_cons_succ, List.getElem_cons_succ]
      exact ih k h'
/-- the slice value v is nil, or a row of the call's own, and holds the steps r -/
def OwnT (w : World) (base : Nat) (v : Value) (r : List St) : Prop := w.ownsRow base 29 3 v r.length (tv r)
theorem OwnT.sl {w : World} {base : Nat} {v : Value} {r : List St} (h : OwnT w base v r) : ∃ A c, v = .slice A r.length c ∧ SlT w A c r ∧ (A = none → c = 0) := by
  have h0 := h
  rcases h.2 with ⟨hv, hn0⟩ | ⟨g, cap, cur, hv, hb, hg, hnc, hcm, hcs, ht⟩
  · have : r = [] := List.eq_nil_of_length_eq_zero hn0
    subst this
    exact ⟨none, 0, hv, ⟨fun k hk => absurd hk (by simp), Nat.le_refl _, by omega⟩, fun _ => rfl⟩
  · refine ⟨some ⟨g, 0, none⟩, cap, hv, ⟨fun k hk => ⟨g, 0, rfl, heap_lt hg, ?_, ?_, ?_⟩, hnc, by unfold maxLen at hcm; omega⟩, fun h => by cases h⟩
    · have := World.ownsRow.cells (g := g) h0 (by rw [hv]; rfl) (k * 3) _ (tv_get r k hk).1
      rwa [add_plain] at this
    · have := World.ownsRow.cells (g := g) h0 (by rw [hv]; rfl) (k * 3 + 1) _ (tv_get r k hk).2.1
      rwa [add_plain] at this
    · have := World.ownsRow.cells (g := g) h0 (by rw [hv]; rfl) (k * 3 + 2) _ (tv_get r k hk).2.2
      rwa [add_plain] at this
theorem SlT.news {w : World} {ad : Addr} {c : Nat} {r : List St} (h : SlT w (some ad) c r) : ∀ j u, (tv r)[j]? = some u → w.cell? (ad.add j) = some u := by
  intro j u hu
  obtain ⟨hj, _⟩ := List.getElem?_eq_some_iff.1 hu
  rw [tv_len] at hj
  have hk : j / 3 < r.length := by omega
  obtain ⟨b, o, e, _, c0, c1, c2⟩ := h.rd (j / 3) hk
  injection e with e
  subst e
  obtain ⟨g0, g1, g2⟩ := tv_get r (j / 3) hk
  rw [add_plain]
  rcases (show j % 3 = 0 ∨ j % 3 = 1 ∨ j % 3 = 2 by omega) with h2 | h2 | h2
  · have ej : j / 3 * 3 = j := by omega
    rw [ej] at c0 g0
    rw [c0]; rw [g0] at hu; exact hu
  · have ej : j / 3 * 3 + 1 = j := by omega
    rw [Nat.add_assoc, ej] at c1
    rw [ej] at g1
    rw [c1]; rw [g1] at hu; exact hu
  · have ej : j / 3 * 3 + 2 = j := by omega
    rw [Nat.add_assoc, ej] at c2
    rw [ej] at g2
    rw [c2]; rw [g2] at hu; exact hu
theorem run_appT {w : World} (ty : TypeId) {base : Nat} {v : Value} {l : List St} (hown : OwnT w base v l) {A : Option Addr} {c : Nat} {ms : List St} (hs : SlT w A c ms) (hnil : A = none → c = 0)
    (hlen : l.length + ms.length ≤ 1000000) (hbase : base ≤ w.heap.size) :
    ∃ v' w', (Builtin.append_ #[22, 22] ty #[v, .slice A ms.length c]).run Try.prog w = .ok v' w' ∧ OwnT w' base v' (l ++ ms) ∧ Below base w w' := by
  obtain ⟨i0, hi0, hz0, hz1, hz2⟩ := info_parts Try.info29
  have hown' : w.ownsRow base 29 3 v l.length (tv l) := hown
  cases hA : A with
  | none =>
    have hc := hnil hA
    have hle := hs.le
    obtain rfl : ms = [] := List.eq_nil_of_length_eq_zero (by omega)
    subst hc
    have hrun := run_append_owned_none (P := Try.prog) (w := w) base 22 ty 29 i0 3 Try.underlying22 hi0 v _ _ hown'
    exact ⟨v, w, hrun, by rw [List.append_nil]; exact hown, Below.refl _ _⟩
  | some ad =>
    subst hA
    obtain ⟨v', w', h1, h2, h3, _, _⟩ := run_append_own_at (P := Try.prog) w base 22 ty 29 i0 (.agg #[.int .u64 0, .int .i64 0, .bool false]) 3 24 Try.underlying22 hi0 hz0 hz1 hz2 rfl (by omega) v _ _ hown' ad ms.length c (tv ms) (tv_len ms) hs.news (tv_one _)
      (by simp [maxLen]; omega) (by omega) hbase
    exact ⟨v', w', h1, by unfold OwnT; rw [tv_app, List.length_append]; exact h2, (Below.refl _ _).grown h3 hbase (fun j e => (hown'.lt j e).1)⟩
/-- append, for a region that draws -/
theorem step_appT {w : World} {ops : Array Oper} {o : Oper} {a : Act} {K : Act → World → Prop} {Q : Exit → Act → World → Prop} {E : Prop} (hgd : o.guard = none) (s x : Operand) (ho : o.op = .call { callee := .builtin .append, args := #[s, x], argTypes := #[22, 22] })
    (base : Nat) (v : Value) (l : List St) (hs : a.eval s = v) (A : Option Addr) (c : Nat) (ms : List St) (n : Nat) (hx : a.eval x = .slice A n c) (hn : n = ms.length) (hown : OwnT w base v l) (hsrc : SlT w A c ms) (hnil : A = none → c = 0) (hlen : l.length + ms.length ≤ 1000000) (hbase : base ≤ w.heap.size)
    (h : ∀ v' w', Hid (OwnT w' base v' (l ++ ms)) → Hid (Below base w w') → K (a.put o.dst v') w') :
    if Region.wanted o (yielded ops a.tmps) = true then Oper.wp Try.prog o a w K Q else E := by
  subst hn
  have hw : Region.wanted o (yielded ops a.tmps) = true := by simp [Region.wanted, hgd]
  rw [if_pos hw]
  obtain ⟨v', w', hr, h2, h3⟩ := run_appT o.type hown hsrc hnil hlen hbase
  unfold Oper.wp execOp
  simp only [ho, resolve, invoke, builtin, Sem.run_bind, Sem.run_pure, Result.andThen_ok, List.map_toArray, List.map_cons, List.map_nil, hs, hx, hr]
  exact h v' w' (Lib.hid h2) (Lib.hid h3)
theorem SlT.head {w : World} {A : Option Addr} {c : Nat} {l : List St} (h : SlT w A c l) (i : Nat) : SlT w A c (l.take i) := ⟨fun k hk => by
  have hk' : k < l.length := by rw [List.length_take] at hk; omega
  obtain ⟨b, o, e, hb, hc, hd, he⟩ := h.rd k hk'
  exact ⟨b, o, e, hb, by rw [hc, List.getElem_take], by rw [hd, List.getElem_take], by rw [he, List.getElem_take]⟩, by have := h.le; rw [List.length_take]; omega, h.max⟩
theorem madeT0 (w : World) : OwnT (w.alloc (.cells #[] 29)) w.heap.size (.slice (some ⟨w.heap.size, 0, none⟩) 0 0) [] := World.ownsRow_made w #[] 0 (Nat.le_refl _) (by simp [maxLen]) rfl
theorem trod_nil {H : Type} {enc : TypeId × Value → H} {W : World} {fuel n c : Nat} {x : DataW H × List MemPlace} (h : DataW.trod enc Try.prog W 0 (fun _ => true) true fuel 22 [.slice none n c] = some x) : c = 0 := by
  rcases open_slice Try.underlying22 h with ⟨hv, _⟩ | ⟨a, len, cap, m, n, D, Pl, hv, _⟩
  · simp at hv
    exact hv.2
  · simp at hv
set_option maxRecDepth 100000 in
/-- an argument that is an O; a nil slice has no room -/
theorem open_O2 {H : Type} {enc : TypeId × Value → H} {W : World} {v : Value} {d : DataW H} {ps : List MemPlace} (h : DataW.Trod enc Try.prog W 0 (fun _ => true) true 45 v d ps) (hval : Value.okWide Try.prog W .any 0 45 v) :
    ∃ A c xs, v = .agg #[.slice A (xs : List St).length c] ∧ SlT W A c xs ∧ (A = none → c = 0) := by
  obtain ⟨cs, rfl, hsz⟩ := okWide_struct Try.underlying45 hval
  rw [Try.cells45] at hsz
  obtain ⟨l⟩ := cs
  match l, hsz with
  | [x], _ =>
    obtain ⟨fuel, hf⟩ := h
    have hcs : (Value.agg #[x]).cells.toList = [x] := rfl
    rw [hcs] at hf
    obtain ⟨zs, n, _, _, _, hl, hg⟩ := DataW.trod_struct Try.underlying45 hf
    match zs, hl with
    | [z0], _ =>
      have h0 := hg 0 _ rfl
      simp [Try.cells22] at h0
      obtain ⟨A, c, xs, rfl, hs⟩ := trod_steps h0
      exact ⟨A, c, xs, rfl, hs, fun e => by subst e; exact trod_nil h0⟩
end Go.Proofs.Ytedekcphgcmlnaa
