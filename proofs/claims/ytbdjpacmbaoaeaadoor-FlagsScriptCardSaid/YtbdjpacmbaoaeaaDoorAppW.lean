/- Slices of bools that may be nil: parts of them, and append of a part to a row of the call's own. -/
import Derived.Laws.AppendOwnNone
import Derived.Test.YtbdjpacmbaoaeaaDoorBitsW
namespace Go.Proofs.YtbdjpacmbaoaeaaDoor
open Go.RowKit S

/-- the slice value '.slice A l.length c' holds the bools l -/
structure SlB (w : World) (A : Option Addr) (c : Nat) (l : List Bool) : Prop where
  rd : RdB w w.heap.size A l
  le : l.length ≤ c
  nil : A = none → c = 0
  flat : ∀ p, A = some p → c = 0 ∨ ∃ b o, p = ⟨b, o, none⟩
/-- what is appended: nil, or the cells of ms in a row -/
def Src (w : World) (A : Option Addr) (n c : Nat) (ms : List Bool) : Prop :=
  (A = none ∧ n = 0 ∧ c = 0 ∧ ms = []) ∨ ∃ ad, A = some ad ∧ n = ms.length ∧ ∀ j u, (bl ms)[j]? = some u → w.cell? (ad.add j) = some u
theorem Src.below {w w' : World} {A : Option Addr} {n c : Nat} {ms : List Bool} (h : Src w A n c ms) (hb : Below w.heap.size w w') : Src w' A n c ms := by
  rcases h with h | ⟨ad, h1, h2, h3⟩
  · exact .inl h
  · exact .inr ⟨ad, h1, h2, fun j u hu => by
      have h4 := h3 j u hu
      exact (hb.cell (World.block_lt_of_cell? w _ h4)).trans h4⟩
theorem SlB.below {w w' : World} {A : Option Addr} {c : Nat} {l : List Bool} (h : SlB w A c l) (hb : Below w.heap.size w w') : SlB w' A c l :=
  ⟨h.rd.next hb, h.le, h.nil, h.flat⟩
theorem rdb_news {w : World} {B b o : Nat} {ms : List Bool} (h : RdB w B (some ⟨b, o, none⟩) ms) (k m : Nat) (j : Nat) (u : Value) (hu : (bl ((ms.drop k).take m))[j]? = some u) : w.cell? ((⟨b, o + k, none⟩ : Addr).add j) = some u := by
  rw [add_plain0]
  have hj : j < m ∧ k + j < ms.length := by
    have := (List.getElem?_eq_some_iff.1 hu).1
    rw [bl_len, List.length_take, List.length_drop] at this; omega
  obtain ⟨b', o', e, _, h1⟩ := h (k + j) hj.2
  injection e with e
  injection e with e1 e2
  subst e1; subst e2
  rw [Nat.add_assoc, h1, ← hu]
  simp [bl, hj.1, hj.2]
/-- a part of a slice, as an operation hands it back -/
theorem SlB.part {w : World} {A : Option Addr} {c : Nat} {l : List Bool} (h : SlB w A c l) (lo hi : Nat) (h1 : lo ≤ hi) (h2 : hi ≤ l.length) :
    Src w (if c = lo then A else A.map fun x => x.add lo) (hi - lo) (c - lo) ((l.drop lo).take (hi - lo)) := by
  have hle := h.le
  have hlen : hi - lo = ((l.drop lo).take (hi - lo)).length := by rw [List.length_take, List.length_drop]; omega
  cases hA : A with
  | none =>
    have hc := h.nil hA
    left
    have : lo = 0 ∧ hi = 0 ∧ c = 0 := by omega
    obtain ⟨rfl, rfl, rfl⟩ := this
    exact ⟨by simp, rfl, rfl, by simp⟩
  | some p =>
    right
    by_cases hcl : c = lo
    · rw [if_pos hcl]
      refine ⟨p, rfl, hlen, fun j u hu => ?_⟩
      have := (List.getElem?_eq_some_iff.1 hu).1
      rw [bl_len, ← hlen] at this
      omega
    · rw [if_neg hcl]
      rcases h.flat p hA with h0 | ⟨b, o, rfl⟩
      · omega
      · refine ⟨(⟨b, o, none⟩ : Addr).add lo, rfl, hlen, fun j u hu => ?_⟩
        rw [add_plain0]
        have hr := h.rd
        rw [hA] at hr
        exact rdb_news hr lo (hi - lo) j u hu
theorem SlB.head {w : World} {A : Option Addr} {c : Nat} {l : List Bool} (h : SlB w A c l) (hi : Nat) (h2 : hi ≤ l.length) : Src w A hi c (l.take hi) := by
  have hle := h.le
  have hlen : hi = (l.take hi).length := by rw [List.length_take]; omega
  cases hA : A with
  | none =>
    have hc := h.nil hA
    left
    have : hi = 0 ∧ c = 0 := by omega
    obtain ⟨rfl, rfl⟩ := this
    exact ⟨rfl, rfl, rfl, by simp⟩
  | some p =>
    right
    refine ⟨p, rfl, hlen, fun j u hu => ?_⟩
    have hj := (List.getElem?_eq_some_iff.1 hu).1
    rw [bl_len, ← hlen] at hj
    rcases h.flat p hA with h0 | ⟨b, o, rfl⟩
    · omega
    · have hr := h.rd
      rw [hA] at hr
      have := rdb_news hr 0 hi j u (by simpa using hu)
      simpa using this
/-- a part of a slice from lo on: its address -/
def cutA (A : Option Addr) (c lo : Nat) : Option Addr := if c = lo then A else A.map fun x => x.add lo
theorem OwnB.slb {w : World} {base : Nat} {v : Value} {l : List Bool} (h : OwnB w base v l) : ∃ A c, v = .slice A l.length c ∧ SlB w A c l := by
  obtain ⟨A, c, hv, hc, hr⟩ := h.rd
  refine ⟨A, c, hv, hr, hc, fun hA => ?_, fun p hp => ?_⟩
  · subst hA
    rcases h.2 with ⟨hv2, _⟩ | ⟨g, cap, cur, hv2, _⟩
    · rw [hv] at hv2
      injection hv2
    · rw [hv] at hv2
      injection hv2 with e
      cases e
  · rcases h.2 with ⟨hv2, _⟩ | ⟨g, cap, cur, hv2, _⟩
    · rw [hv, hp] at hv2
      injection hv2 with e
      cases e
    · rw [hv, hp] at hv2
      injection hv2 with e
      injection e with e
      exact .inr ⟨g, 0, e⟩
theorem info4p : ∃ i : TypeInfo, Tryd.prog.info? 4 = some i ∧ i.zero = some (.bool false) ∧ i.size = 1 ∧ i.bytes = 1 := info_parts info4
theorem run_app {w : World} (ty : TypeId) {base : Nat} {v : Value} {l : List Bool} (hown : OwnB w base v l) {A : Option Addr} {n c : Nat} {ms : List Bool} (hs : Src w A n c ms)
    (hlen : l.length + ms.length ≤ 1000000) (hbase : base ≤ w.heap.size) :
    ∃ v' w', (Builtin.append_ #[22, 22] ty #[v, .slice A n c]).run Tryd.prog w = .ok v' w' ∧ OwnB w' base v' (l ++ ms) ∧ Below base w w' := by
  obtain ⟨i0, hi0, hz0, hz1, hz2⟩ := info4p
  have hown' : w.ownsRow base 4 1 v l.length (bl l) := hown
  rcases hs with ⟨rfl, rfl, rfl, rfl⟩ | ⟨ad, rfl, rfl, hc⟩
  · have hrun := run_append_owned_none (P := Tryd.prog) (w := w) base 22 ty 4 i0 1 Tryd.underlying22 hi0 v _ _ hown'
    exact ⟨v, w, hrun, by rw [List.append_nil]; exact hown, Below.refl _ _⟩
  · obtain ⟨v', w', h1, h2, h3, _, _⟩ := run_append_own_at (P := Tryd.prog) w base 22 ty 4 i0 (.bool false) 1 1 Tryd.underlying22 hi0 hz0 hz1 hz2 rfl (by omega) v _ _ hown' ad ms.length c (bl ms) (by rw [bl_len]; omega) hc (bl_one _)
      (by simp [maxLen]; omega) (by omega) hbase
    exact ⟨v', w', h1, OwnB.apps h2 rfl, (Below.refl _ _).grown h3 hbase (fun j e => (hown'.lt j e).1)⟩
/-- append, for the walk -/
theorem wp_app {w : World} {ops : Array Oper} {rest : List Oper} {o : Oper} {a : Act} {Q : Exit → Act → World → Prop} (hgd : o.guard = none) (s x : Operand) (ho : o.op = .call { callee := .builtin .append, args := #[s, x], argTypes := #[22, 22] })
    (base : Nat) (v : Value) (l : List Bool) (hs : a.eval s = v) (A : Option Addr) (n c : Nat) (ms : List Bool) (hx : a.eval x = .slice A n c) (hown : OwnB w base v l) (hsrc : Src w A n c ms) (hlen : l.length + ms.length ≤ 1000000) (hbase : base ≤ w.heap.size)
    (h : ∀ v' w', Hid (OwnB w' base v' (l ++ ms)) → Hid (Below base w w') → wpList Tryd.prog ops Q rest (a.put o.dst v') w') : wpList Tryd.prog ops Q (o :: rest) a w := by
  refine wpList_plain hgd fun K hK => ?_
  obtain ⟨v', w', hr, h2, h3⟩ := run_app o.type hown hsrc hlen hbase
  unfold Oper.wp execOp
  simp only [ho, resolve, invoke, builtin, Sem.run_bind, Sem.run_pure, Result.andThen_ok, List.map_toArray, List.map_cons, List.map_nil, hs, hx, hr]
  exact hK _ _ (h v' w' (Lib.hid h2) (Lib.hid h3))
/-- append, for a region that draws -/
theorem step_app {w : World} {ops : Array Oper} {o : Oper} {a : Act} {K : Act → World → Prop} {Q : Exit → Act → World → Prop} {E : Prop} (hgd : o.guard = none) (s x : Operand) (ho : o.op = .call { callee := .builtin .append, args := #[s, x], argTypes := #[22, 22] })
    (base : Nat) (v : Value) (l : List Bool) (hs : a.eval s = v) (A : Option Addr) (n c : Nat) (ms : List Bool) (hx : a.eval x = .slice A n c) (hown : OwnB w base v l) (hsrc : Src w A n c ms) (hlen : l.length + ms.length ≤ 1000000) (hbase : base ≤ w.heap.size)
    (h : ∀ v' w', Hid (OwnB w' base v' (l ++ ms)) → Hid (Below base w w') → K (a.put o.dst v') w') :
    if Region.wanted o (yielded ops a.tmps) = true then Oper.wp Tryd.prog o a w K Q else E := by
  have hw : Region.wanted o (yielded ops a.tmps) = true := by simp [Region.wanted, hgd]
  rw [if_pos hw]
  obtain ⟨v', w', hr, h2, h3⟩ := run_app o.type hown hsrc hlen hbase
  unfold Oper.wp execOp
  simp only [ho, resolve, invoke, builtin, Sem.run_bind, Sem.run_pure, Result.andThen_ok, List.map_toArray, List.map_cons, List.map_nil, hs, hx, hr]
  exact h v' w' (Lib.hid h2) (Lib.hid h3)
end Go.Proofs.YtbdjpacmbaoaeaaDoor
