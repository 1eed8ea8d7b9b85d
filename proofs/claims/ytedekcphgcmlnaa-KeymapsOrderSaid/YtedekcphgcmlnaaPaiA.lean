/- The list of pairs: rows of two cells; append. -/
import Derived.Test.YtedekcphgcmlnaaCopW
namespace Go.Proofs.Ytedekcphgcmlnaa
open Go.RowKit

/-- a slice of rows that is read -/
def RdR (W : World) (B : Nat) (A : Option Addr) (r : PL) : Prop :=
  ∀ k (h : k < r.length), ∃ b o, A = some ⟨b, o, none⟩ ∧ b < B ∧ W.cell? ⟨b, o + k * 2, none⟩ = some (.int .u64 r[k].1) ∧ W.cell? ⟨b, o + k * 2 + 1, none⟩ = some (.int .i64 r[k].2)
theorem RdR.nil {W : World} {B : Nat} {A : Option Addr} : RdR W B A [] := fun k h => absurd h (by simp)
theorem RdR.below {W W' : World} {B : Nat} {A : Option Addr} {r : PL} (h : RdR W B A r) (hb : Below B W W') : RdR W' B A r := fun k hk => by
  obtain ⟨b, o, e, h0, h1, h2⟩ := h k hk
  exact ⟨b, o, e, h0, (hb.cell (p := ⟨b, _, none⟩) h0).trans h1, (hb.cell (p := ⟨b, _, none⟩) h0).trans h2⟩
theorem RdR.more {W : World} {B B' : Nat} {A : Option Addr} {r : PL} (h : RdR W B A r) (hB : B ≤ B') : RdR W B' A r := fun k hk => by
  obtain ⟨b, o, e, h0, h1⟩ := h k hk
  exact ⟨b, o, e, Nat.lt_of_lt_of_le h0 hB, h1⟩
theorem RdR.next {W W' : World} {A : Option Addr} {r : PL} (h : RdR W W.heap.size A r) (kk : Below W.heap.size W W') : RdR W' W'.heap.size A r := (h.below kk).more kk.size
theorem Try.info41 : (Try.prog.info? 41).map (fun i => (i.zero, i.size, i.bytes)) = some (some (.agg #[.int .u64 0, .int .i64 0]), 2, 16) := by kernel_rfl
/-- rows as cells -/
def rv (r : PL) : List Value := r.flatMap fun s => [.int .u64 s.1, .int .i64 s.2]
theorem rv_len (r : PL) : (rv r).length = r.length * 2 := by
  induction r with
  | nil => rfl
  | cons s r ih => simp [rv] at ih ⊢; omega
theorem rv_app (a b : PL) : rv (a ++ b) = rv a ++ rv b := by simp [rv]
theorem rv_one (r : PL) : ∀ u ∈ rv r, u.oneCell' = true := by
  intro u hu
  simp only [rv, List.mem_flatMap, List.mem_cons, List.not_mem_nil, or_false] at hu
  obtain ⟨s, _, rfl | rfl⟩ := hu <;> rfl
theorem rv_get (r : PL) (k : Nat) (h : k < r.length) : (rv r)[k * 2]? = some (.int .u64 r[k].1) ∧ (rv r)[k * 2 + 1]? = some (.int .i64 r[k].2) := by
  induction r generalizing k with
  | nil => simp at h
  | cons s r ih =>
    have e0 : rv (s :: r) = .int .u64 s.1 :: .int .i64 s.2 :: rv r := rfl
    cases k with
    | zero => simp [e0]
    | succ k =>
      have h' : k < r.length := by simpa using h
      have e : (k + 1) * 2 = k * 2 + 1 + 1 := by omega
      rw [e0, e, List.getElem?_cons_succ, List.getElem?_cons_succ, List.getElem?_cons_succ, List.getElem?_cons_succ]
      simpa using ih k h'
/-- the slice value v is nil, or a row of the call's own, and holds the rows r -/
def OwnR (w : World) (base : Nat) (v : Value) (r : PL) : Prop := w.ownsRow base 41 2 v r.length (rv r)
/-- a slice of rows: the cells, and no room in a nil one -/
structure SlR (w : World) (A : Option Addr) (c : Nat) (r : PL) : Prop where
  rd : RdR w w.heap.size A r
  le : r.length ≤ c
  max : c ≤ 9223372036854775807
  nil : A = none → c = 0
theorem SlR.below {w w' : World} {A : Option Addr} {c : Nat} {r : PL} (h : SlR w A c r) (hb : Below w.heap.size w w') : SlR w' A c r := ⟨h.rd.next hb, h.le, h.max, h.nil⟩
theorem SlR.none (w : World) : SlR w none 0 [] := ⟨RdR.nil, Nat.le_refl _, by omega, fun _ => rfl⟩
theorem OwnR.sl {w : World} {base : Nat} {v : Value} {r : PL} (h : OwnR w base v r) : ∃ A c, v = .slice A r.length c ∧ SlR w A c r ∧ ∀ a, A = some a → base ≤ a.block := by
  have h0 := h
  rcases h.2 with ⟨hv, hn0⟩ | ⟨g, cap, cur, hv, hb, hg, hnc, hcm, hcs, ht⟩
  · have : r = [] := List.eq_nil_of_length_eq_zero hn0
    subst this
    exact ⟨none, 0, hv, SlR.none w, fun _ h => by cases h⟩
  · refine ⟨some ⟨g, 0, none⟩, cap, hv, ⟨fun k hk => ⟨g, 0, rfl, heap_lt hg, ?_, ?_⟩, hnc, by unfold maxLen at hcm; omega, fun h => by cases h⟩, fun a ha => by cases ha; exact hb⟩
    · have := World.ownsRow.cells (g := g) h0 (by rw [hv]; rfl) (k * 2) _ (rv_get r k hk).1
      rwa [add_plain] at this
    · have := World.ownsRow.cells (g := g) h0 (by rw [hv]; rfl) (k * 2 + 1) _ (rv_get r k hk).2
      rwa [add_plain] at this
theorem SlR.news {w : World} {ad : Addr} {c : Nat} {r : PL} (h : SlR w (some ad) c r) : ∀ j u, (rv r)[j]? = some u → w.cell? (ad.add j) = some u := by
  intro j u hu
  obtain ⟨hj, _⟩ := List.getElem?_eq_some_iff.1 hu
  rw [rv_len] at hj
  have hk : j / 2 < r.length := by omega
  obtain ⟨b, o, e, _, c0, c1⟩ := h.rd (j / 2) hk
  injection e with e
  subst e
  obtain ⟨g0, g1⟩ := rv_get r (j / 2) hk
  rw [add_plain]
  rcases Nat.mod_two_eq_zero_or_one j with h2 | h2
  · have ej : j / 2 * 2 = j := by omega
    rw [ej] at c0 g0
    rw [c0]; rw [g0] at hu; exact hu
  · have ej : j / 2 * 2 + 1 = j := by omega
    rw [Nat.add_assoc, ej] at c1
    rw [ej] at g1
    rw [c1]; rw [g1] at hu; exact hu
theorem run_appR {w : World} (ty : TypeId) {base : Nat} {v : Value} {l : PL} (hown : OwnR w base v l) {A : Option Addr} {c : Nat} {ms : PL} (hs : SlR w A c ms)
    (hlen : l.length + ms.length ≤ 1000000) (hbase : base ≤ w.heap.size) :
    ∃ v' w', (Builtin.append_ #[26, 26] ty #[v, .slice A ms.length c]).run Try.prog w = .ok v' w' ∧ OwnR w' base v' (l ++ ms) ∧ Below base w w' ∧ w.grownBy w' v.ownBlock := by
  obtain ⟨i0, hi0, hz0, hz1, hz2⟩ := info_parts Try.info41
  have hown' : w.ownsRow base 41 2 v l.length (rv l) := hown
  cases hA : A with
  | none =>
    have hc := hs.nil hA
    have hle := hs.le
    obtain rfl : ms = [] := List.eq_nil_of_length_eq_zero (by omega)
    subst hc
    have hrun := run_append_owned_none (P := Try.prog) (w := w) base 26 ty 41 i0 2 Try.underlying26 hi0 v _ _ hown'
    exact ⟨v, w, hrun, by rw [List.append_nil]; exact hown, Below.refl _ _, World.grownBy.refl _ _⟩
  | some ad =>
    subst hA
    obtain ⟨v', w', h1, h2, h3, _, _⟩ := run_append_own_at (P := Try.prog) w base 26 ty 41 i0 (.agg #[.int .u64 0, .int .i64 0]) 2 16 Try.underlying26 hi0 hz0 hz1 hz2 rfl (by omega) v _ _ hown' ad ms.length c (rv ms) (rv_len ms) hs.news (rv_one _)
      (by simp [maxLen]; omega) (by omega) hbase
    exact ⟨v', w', h1, by unfold OwnR; rw [rv_app, List.length_append]; exact h2, (Below.refl _ _).grown h3 hbase (fun j e => (hown'.lt j e).1), h3⟩
/-- append, for the walk -/
theorem wp_appR {w : World} {ops : Array Oper} {rest : List Oper} {o : Oper} {a : Act} {Q : Exit → Act → World → Prop} (hgd : o.guard = none) (s x : Operand) (ho : o.op = .call { callee := .builtin .append, args := #[s, x], argTypes := #[26, 26] })
    (base : Nat) (v : Value) (l : PL) (hs : a.eval s = v) (A : Option Addr) (c : Nat) (ms : PL) (n : Nat) (hx : a.eval x = .slice A n c) (hn : n = ms.length) (hown : OwnR w base v l) (hsrc : SlR w A c ms) (hlen : l.length + ms.length ≤ 1000000) (hbase : base ≤ w.heap.size)
    (h : ∀ v' w', Hid (OwnR w' base v' (l ++ ms)) → Hid (Below base w w') → wpList Try.prog ops Q rest (a.put o.dst v') w') : wpList Try.prog ops Q (o :: rest) a w := by
  subst hn
  refine wpList_plain hgd fun K hK => ?_
  obtain ⟨v', w', hr, h2, h3, _⟩ := run_appR o.type hown hsrc hlen hbase
  unfold Oper.wp execOp
  simp only [ho, resolve, invoke, builtin, Sem.run_bind, Sem.run_pure, Result.andThen_ok, List.map_toArray, List.map_cons, List.map_nil, hs, hx, hr]
  exact hK _ _ (h v' w' (Lib.hid h2) (Lib.hid h3))
/-- append, for a region that draws -/
theorem step_appR {w : World} {ops : Array Oper} {o : Oper} {a : Act} {K : Act → World → Prop} {Q : Exit → Act → World → Prop} {E : Prop} (hgd : o.guard = none) (s x : Operand) (ho : o.op = .call { callee := .builtin .append, args := #[s, x], argTypes := #[26, 26] })
    (base : Nat) (v : Value) (l : PL) (hs : a.eval s = v) (A : Option Addr) (c : Nat) (ms : PL) (n : Nat) (hx : a.eval x = .slice A n c) (hn : n = ms.length) (hown : OwnR w base v l) (hsrc : SlR w A c ms) (hlen : l.length + ms.length ≤ 1000000) (hbase : base ≤ w.heap.size)
    (h : ∀ v' w', Hid (OwnR w' base v' (l ++ ms)) → Hid (Below base w w') → K (a.put o.dst v') w') :
    if Region.wanted o (yielded ops a.tmps) = true then Oper.wp Try.prog o a w K Q else E := by
  subst hn
  have hw : Region.wanted o (yielded ops a.tmps) = true := by simp [Region.wanted, hgd]
  rw [if_pos hw]
  obtain ⟨v', w', hr, h2, h3, _⟩ := run_appR o.type hown hsrc hlen hbase
  unfold Oper.wp execOp
  simp only [ho, resolve, invoke, builtin, Sem.run_bind, Sem.run_pure, Result.andThen_ok, List.map_toArray, List.map_cons, List.map_nil, hs, hx, hr]
  exact h v' w' (Lib.hid h2) (Lib.hid h3)
theorem slr_one (W : World) (x b : Int) : SlR (W.alloc (.cells #[.int .u64 x, .int .i64 b] 41)) (some ⟨W.heap.size, 0, none⟩) 1 [(x, b)] :=
  ⟨fun k hk => by
    obtain rfl : k = 0 := by simpa using hk
    have h := heap_alloc_new W (.cells #[.int .u64 x, .int .i64 b] 41)
    exact ⟨W.heap.size, 0, rfl, heap_lt h, cell_of_row _ _ 0 _ 41 (0, 0) h, cell_of_row _ _ 1 _ 41 (0, 0) h⟩, Nat.le_refl _, by omega, fun h => by cases h⟩
theorem RdR.part {w : World} {B : Nat} {A : Option Addr} {l : PL} (h : RdR w B A l) (m : Nat) : RdR w B A (l.take m) := fun k hk => by
  have hk' : k < l.length := by rw [List.length_take] at hk; omega
  obtain ⟨b, o, e, hb, hc, hd⟩ := h k hk'
  exact ⟨b, o, e, hb, by rw [hc, List.getElem_take], by rw [hd, List.getElem_take]⟩
theorem RdR.cut {W : World} {B c : Nat} {A : Option Addr} {l : PL} (h : RdR W B A l) (hc : l.length ≤ c) (i : Nat) : RdR W B (if c = i then A else A.map fun x => x.add (i * 2)) (l.drop i) := fun k hk => by
  rw [List.length_drop] at hk
  obtain ⟨b, o, e, h1, h2, h3⟩ := h (i + k) (by omega)
  subst e
  rw [if_neg (by omega)]
  refine ⟨b, o + i * 2, ?_, h1, ?_, ?_⟩
  · show some ((⟨b, o, none⟩ : Addr).add (i * 2)) = _
    rw [add_plain]
  · rw [show o + i * 2 + k * 2 = o + (i + k) * 2 by omega, h2, List.getElem_drop]
  · rw [show o + i * 2 + k * 2 + 1 = o + (i + k) * 2 + 1 by omega, h3, List.getElem_drop]
theorem SlR.head {w : World} {A : Option Addr} {c : Nat} {l : PL} (h : SlR w A c l) (i : Nat) : SlR w A c (l.take i) := ⟨h.rd.part i, by have := h.le; rw [List.length_take]; omega, h.max, h.nil⟩
theorem SlR.rest {w : World} {A : Option Addr} {c : Nat} {l : PL} (h : SlR w A c l) (i : Nat) (hi : i ≤ l.length) : SlR w (if c = i then A else A.map fun x => x.add (i * 2)) (c - i) (l.drop i) :=
  ⟨h.rd.cut h.le i, by have := h.le; rw [List.length_drop]; omega, by have := h.max; omega, fun hA => by
    by_cases hc : c = i
    · omega
    · rw [if_neg hc] at hA
      cases A with
      | none => have := h.nil rfl; omega
      | some a => cases hA⟩
theorem madeR0 (w : World) : OwnR (w.alloc (.cells #[] 41)) w.heap.size (.slice (some ⟨w.heap.size, 0, none⟩) 0 0) [] := World.ownsRow_made w #[] 0 (Nat.le_refl _) (by simp [maxLen]) rfl
theorem OwnR.le {w : World} {base base' : Nat} {v : Value} {l : PL} (h : OwnR w base v l) (hb : base' ≤ base) : OwnR w base' v l := by
  refine ⟨h.1, ?_⟩
  rcases h.2 with h2 | ⟨g, cap, cur, hv, hg, r⟩
  · exact .inl h2
  · exact .inr ⟨g, cap, cur, hv, Nat.le_trans hb hg, r⟩

end Go.Proofs.Ytedekcphgcmlnaa
