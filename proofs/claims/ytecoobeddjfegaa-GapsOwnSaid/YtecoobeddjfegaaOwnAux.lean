/- Rows of the call's own: append, and elements made one greater. -/
import Derived.Test.YtecoobeddjfegaaIv
import Derived.Test.YtecoobeddjfegaaHas
import Derived.Maps.AppendAt
import Derived.Laws.AppendOwnNone
namespace Go.Proofs.Ytecoobeddjfegaa
open Go.RowKit

theorem append_src {P : Program} {w : World} {ops : Array Oper} {rest : List Oper} {o : Oper} {a : Act} {Q : Exit → Act → World → Prop} (hgd : o.guard = none) (s x : Operand) (t : TypeId)
    (ho : o.op = .call { callee := .builtin .append, args := #[s, x], argTypes := #[t, t] })
    (base : Nat) (e : TypeId) (i : TypeInfo) (z : Value) (bytes : Nat) (ht : P.underlying t = some (.slice e)) (hi : P.info? e = some i) (hz : i.zero = some z)
    (hsize : i.size = 1) (hby : i.bytes = bytes) (hzs : z.cells.size = 1)
    (v : Value) (n : Nat) (xs : List Value) (hs : a.eval s = v) (hown : w.ownsRow base e 1 v n xs)
    (A : Option Addr) (m c : Nat) (news : List Value) (hx : a.eval x = .slice A m c) (hl : news.length = m)
    (hsrc : (A = none ∧ m = 0 ∧ c = 0) ∨ ∃ ad, A = some ad ∧ ∀ j u, news[j]? = some u → w.cell? (ad.add j) = some u) (h1 : ∀ u ∈ news, u.oneCell' = true)
    (h63 : n + m ≤ maxLen) (hbytes : (n + m) * bytes ≤ 140737488355328) (hbase : base ≤ w.heap.size)
    (h : ∀ v' w', w'.ownsRow base e 1 v' (n + m) (xs ++ news) → w.grownBy w' v.ownBlock → wpList P ops Q rest (a.put o.dst v') w') :
    wpList P ops Q (o :: rest) a w := by
  rcases hsrc with ⟨rfl, rfl, rfl⟩ | ⟨ad, rfl, hc⟩
  · have hn : news = [] := List.eq_nil_of_length_eq_zero hl
    subst hn
    exact wpList_append_own_none hgd s x t ho base e i 1 ht hi v n xs hs hown hx (h v w (by simpa using hown) (World.grownBy.refl w _))
  · refine wpList_append_own_at w hgd s x t ho base e i z 1 bytes ht hi hz hsize hby hzs (by omega) v n xs hs hown ad m c news hx (by omega) hc h1 h63 hbytes hbase ?_
    intro v' w' h2 h3 _ _
    exact h v' w' h2 h3
theorem RdV.src {w : World} {B : Nat} {A : Option Addr} {ys : List Value} {m c : Nat} (h : RdV w B A ys) (hm : ys.length = m) (hA : A = none → c = 0) :
    (A = none ∧ m = 0 ∧ c = 0) ∨ ∃ ad, A = some ad ∧ ∀ j u, ys[j]? = some u → w.cell? (ad.add j) = some u := by
  cases A with
  | none =>
    refine .inl ⟨rfl, ?_, hA rfl⟩
    rcases Nat.eq_zero_or_pos m with e | e
    · exact e
    · obtain ⟨_, _, e2, _⟩ := h 0 (by omega)
      cases e2
  | some ad =>
    refine .inr ⟨ad, rfl, fun j u hu => ?_⟩
    obtain ⟨hj, rfl⟩ := List.getElem?_eq_some_iff.1 hu
    obtain ⟨b', o', e, _, hc⟩ := h j hj
    injection e with e
    subst e
    rw [add_plain, hc]

/-- the slice at D has n integers, in a block that is known whole -/
def XR (w : World) (D : Option Addr) (n : Nat) : Prop := 0 < n → ∃ (g : Nat) (cur : Array Value), D = some ⟨g, 0, none⟩ ∧ w.heap[g]? = some (.cells cur 3 (0, 0)) ∧ ∀ i, i < n → ∃ v : Int, cur[i]? = some (.int .i64 v)
theorem XR.below {w w' : World} {D : Option Addr} {n : Nat} (h : XR w D n) (hb : Below w.heap.size w w') : XR w' D n := fun hn => by
  obtain ⟨g, cur, e, hg, hc⟩ := h hn
  exact ⟨g, cur, e, (hb.block g (lt_of_block hg)).trans hg, hc⟩
theorem XR.keep {w w' : World} {D : Option Addr} {n : Nat} (h : XR w D n) (hb : 0 < n → ∀ g, D = some ⟨g, 0, none⟩ → w'.heap[g]? = w.heap[g]?) : XR w' D n := fun hn => by
  obtain ⟨g, cur, e, hg, hc⟩ := h hn
  exact ⟨g, cur, e, (hb hn g e).trans hg, hc⟩
theorem XR.row {w : World} {G n : Nat} {zs : List Int} (h : w.heap[G]? = some (.cells (iv zs).toArray 3 (0, 0))) (hn : zs.length = n) : XR w (some ⟨G, 0, none⟩) n := fun _ =>
  ⟨G, _, rfl, h, fun i hi => ⟨zs[i]'(by omega), by simp [iv, show i < zs.length by omega]⟩⟩
theorem own_row {w : World} {base n : Nat} {v : Value} {zs : List Int} (h : w.ownsRow base 3 1 v n (iv zs)) (hn : zs.length = n) :
    ∃ A c, v = .slice A n c ∧ RdV w w.heap.size A (iv zs) ∧ XR w A n ∧ (∀ g o, A = some ⟨g, o, none⟩ → base ≤ g ∧ g < w.heap.size) := by
  rcases h.2 with ⟨hv, hn0⟩ | ⟨g, cap, cur, hv, hb, hg, hnc, hcm, hcs, ht⟩
  · subst hn0
    have : zs = [] := List.eq_nil_of_length_eq_zero hn
    subst this
    exact ⟨none, 0, hv, RdV.nil, fun h0 => absurd h0 (by omega), fun g o e => by cases e⟩
  · have hat : ∀ k (hk : k < zs.length), cur[k]? = some (.int .i64 zs[k]) := fun k hk => by
      have e1 : (cur.toList.take (n * 1))[k]? = (iv zs)[k]? := by rw [ht]
      rw [List.getElem?_take, if_pos (by omega)] at e1
      simpa [iv, hk] using e1
    refine ⟨_, _, hv, fun k hk => ⟨g, 0, rfl, lt_of_block hg, ?_⟩, fun _ => ⟨g, cur, rfl, hg, fun i hi => ⟨_, hat i (by omega)⟩⟩, fun g' o e => by
      injection e with e
      injection e with e1 e2
      subst e1
      exact ⟨hb, lt_of_block hg⟩⟩
    rw [Nat.zero_add, cell_of_row w g k cur 3 (0, 0) hg]
    rw [iv_len] at hk
    rw [hat k hk]
    simp [iv]

/-- nothing but the block of the slice at D has changed since W; it has n integers still -/
structure Bump (W : World) (D : Option Addr) (n : Nat) (wr : World) : Prop where
  row : XR wr D n
  os : wr.os = W.os
  tape : wr.tape = W.tape
  output : wr.output = W.output
  size : wr.heap.size = W.heap.size
  block : ∀ i, (0 < n → ∀ g, D = some ⟨g, 0, none⟩ → i ≠ g) → wr.heap[i]? = W.heap[i]?
theorem Bump.start {W : World} {D : Option Addr} {n : Nat} (h : XR W D n) : Bump W D n W := ⟨h, rfl, rfl, rfl, rfl, fun _ _ => rfl⟩
theorem Bump.at_ {W wr : World} {D : Option Addr} {n : Nat} (h : Bump W D n wr) {j : Nat} (hj : j < n) :
    ∃ g v, D = some ⟨g, 0, none⟩ ∧ wr.cell? ⟨g, j, none⟩ = some (.int .i64 v) ∧ wr.frozen? ⟨g, j, none⟩ = false ∧ ∀ u, Bump W D n (wr.setCell ⟨g, j, none⟩ (.int .i64 u)) := by
  obtain ⟨g, cur, e, hg, hc⟩ := h.row (by omega)
  obtain ⟨v, hv⟩ := hc j hj
  refine ⟨g, v, e, by rw [cell_of_row wr g j cur 3 (0, 0) hg]; exact hv, by simp [World.frozen?, hg], fun u => ⟨fun _ => ⟨g, cur.setIfInBounds j (.int .i64 u), e, by simp [World.setCell, Array.getElem?_modify, hg], fun i hi => ?_⟩, h.os, h.tape, h.output, by simpa [World.setCell] using h.size, fun i hi => ?_⟩⟩
  · by_cases hij : j = i
    · subst hij
      have hlt : j < cur.size := (Array.getElem?_eq_some_iff.1 hv).1
      exact ⟨u, by simp [hlt]⟩
    · obtain ⟨v', hv'⟩ := hc i hi
      exact ⟨v', by rw [Array.getElem?_setIfInBounds_ne hij]; exact hv'⟩
  · exact (Below.heap_setCell wr ⟨g, j, none⟩ _ i (hi (by omega) g e)).trans (h.block i hi)
theorem Bump.below {W wr : World} {D : Option Addr} {n B : Nat} (h : Bump W D n wr) (hD : ∀ g, D = some ⟨g, 0, none⟩ → B ≤ g) : Below B W wr :=
  ⟨h.os, h.tape, h.output, Nat.le_of_eq h.size.symm, fun i hi => h.block i (fun _ g e => by have := hD g e; omega)⟩
theorem Bump.has {W wr : World} {D : Option Addr} {n B U b k g : Nat} {xs : List Value} {T S : TypeId} (h : Bump W D n wr) (hh : Has T S B U W b k xs g) (hD : ∀ g, D = some ⟨g, 0, none⟩ → g < B ∨ U ≤ g) : Has T S B U wr b k xs g :=
  hh.far (Nat.le_of_eq h.size.symm) (fun i h1 h2 => h.block i (fun _ g e => by have := hD g e; omega))
theorem Bump.xr {W wr : World} {D D' : Option Addr} {n k : Nat} (h : Bump W D n wr) (hx : XR W D' k) (hne : ∀ g g', D = some ⟨g, 0, none⟩ → D' = some ⟨g', 0, none⟩ → g' ≠ g) : XR wr D' k :=
  hx.keep (fun _ g e => h.block g (fun _ g' e' => hne g' g e' e))
end Go.Proofs.Ytecoobeddjfegaa
