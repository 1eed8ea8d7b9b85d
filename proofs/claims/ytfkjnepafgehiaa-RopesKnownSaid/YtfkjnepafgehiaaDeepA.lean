/- Lists of small sizes; a rope and a row of the law RopesDeep. -/
import Derived.Test.YtfkjnepafgehiaaRp
namespace Go.Proofs.Ytfkjnepafgehiaa
open Go.RowKit

theorem OwnI.next {w w' : World} {base : Nat} {v : Value} {l : List Int} (h : OwnI w base v l) (kk : Below w.heap.size w w') : OwnI w' base v l := by
  refine ⟨h.1, ?_⟩
  rcases h.2 with h2 | ⟨g, cap, cur, hv, hb, hg, r⟩
  · exact .inl h2
  · exact .inr ⟨g, cap, cur, hv, hb, keep_heap kk hg, r⟩
theorem OwnI.le {w : World} {base base' : Nat} {v : Value} {l : List Int} (h : OwnI w base v l) (hb : base' ≤ base) : OwnI w base' v l := by
  refine ⟨h.1, ?_⟩
  rcases h.2 with h2 | ⟨g, cap, cur, hv, hg, r⟩
  · exact .inl h2
  · exact .inr ⟨g, cap, cur, hv, Nat.le_trans hb hg, r⟩
theorem OwnI.set4 {w : World} {base g : Nat} {v : Value} {l : List Int} {a0 a1 a2 a3 : Value} (h : OwnI w base v l) (hg : g < base) : OwnI ((((w.setCell ⟨g, 0, none⟩ a0).setCell ⟨g, 1, none⟩ a1).setCell ⟨g, 2, none⟩ a2).setCell ⟨g, 3, none⟩ a3) base v l :=
  ownsRow_setCell_below (ownsRow_setCell_below (ownsRow_setCell_below (ownsRow_setCell_below h hg _) hg _) hg _) hg _
/-- a list of at most 255 numbers of 0 to 6 -/
structure Sm (J : List Int) : Prop where
  each : ∀ x ∈ J, 0 ≤ x ∧ x ≤ 6
  len : J.length ≤ 255
theorem Sm.sum {J : List Int} (h : Sm J) : 0 ≤ J.sum ∧ J.sum ≤ 15 * J.length := sum_small fun x hx => ⟨(h.each x hx).1, by have := (h.each x hx).2; omega⟩
theorem Sm.vd {J : List Int} (h : Sm J) : Vd J := by
  have h1 := h.sum
  have h2 := h.len
  exact vd_of ⟨fun x hx => (h.each x hx).1, by omega, by omega⟩ fun x hx => by have := (h.each x hx).2; omega
theorem Sm.nil : Sm [] := ⟨fun _ hx => by simp at hx, by simp⟩
theorem Sm.front {J : List Int} {v : Int} (h : Sm J) (hv : 0 ≤ v ∧ v ≤ 6) (hl : J.length < 255) : Sm (v :: J) :=
  ⟨fun x hx => by rcases List.mem_cons.1 hx with rfl | hx; exact hv; exact h.each x hx, by rw [List.length_cons]; omega⟩
theorem Sm.back {J : List Int} {v : Int} (h : Sm J) (hv : 0 ≤ v ∧ v ≤ 6) (hl : J.length < 255) : Sm (J ++ [v]) :=
  ⟨fun x hx => by rcases List.mem_append.1 hx with hx | hx; exact h.each x hx; (obtain rfl := List.mem_singleton.1 hx; exact hv), by rw [List.length_append, List.length_singleton]; omega⟩
theorem Sm.cut {J : List Int} (h : Sm J) (j : Nat) : Sm (J.take j ++ J.drop (j + 1)) :=
  ⟨fun x hx => by rcases List.mem_append.1 hx with hx | hx; exact h.each x (List.mem_of_mem_take hx); exact h.each x (List.mem_of_mem_drop hx), by have := h.len; rw [List.length_append, List.length_take, List.length_drop]; omega⟩
theorem joinE_small {J : List Int} {v : Int} (h : Sm J) (hv : 0 ≤ v ∧ v ≤ 6) : joinE J [v] = 0 := by
  have h1 := h.sum
  have h2 := h.len
  unfold joinE
  rw [if_neg (by rw [List.length_singleton]; omega), if_neg (by simp; omega)]
theorem chk_small {v : Int} (hv : 0 ≤ v ∧ v ≤ 6) : chk [v] = 0 := by rw [chk_one, if_neg (by omega)]
theorem insR_front {J : List Int} {v : Int} (h : Sm J) (hv : 0 ≤ v ∧ v ≤ 6) : insR J 0 [v] = (v :: J, 0) := by
  unfold insR
  rw [if_pos (by unfold partE; rw [if_neg (by omega)]), if_pos (chk_small hv), if_pos (joinE_small h hv)]
  simp
theorem insR_back {J : List Int} {v : Int} (h : Sm J) (hv : 0 ≤ v ∧ v ≤ 6) : insR J (J.length : Nat) [v] = (J ++ [v], 0) := by
  unfold insR
  rw [if_pos (show partE J.length (J.length : Nat) 0 = 0 from partE_ok (n := 0) (by omega)), if_pos (chk_small hv), if_pos (joinE_small h hv)]
  simp
theorem remR_one {J : List Int} {j : Nat} (h : j < J.length) : remR J j 1 = (J.take j ++ J.drop (j + 1), 0) := by
  unfold remR
  rw [if_pos (show partE J.length j 1 = 0 from partE_ok (n := 1) (by omega))]
  simp
theorem run_app2 {w : World} (ty : TypeId) {base : Nat} {v : Value} {l : List Int} (hown : OwnI w base v l) {A : Option Addr} {c : Nat} {ms : List Int} (hs : SlI w A c ms)
    (hlen : l.length + ms.length ≤ 1000000) (hbase : base ≤ w.heap.size) :
    ∃ v' w', (Builtin.append_ #[22, 22] ty #[v, .slice A ms.length c]).run Try.prog w = .ok v' w' ∧ OwnI w' base v' (l ++ ms) ∧ Below base w w' ∧ w.grownBy w' v.ownBlock := by
  obtain ⟨i0, hi0, hz0, hz1, hz2⟩ := info2p
  have hown' : w.ownsRow base 2 1 v l.length (iv l) := hown
  cases hA : A with
  | none =>
    have hc := hs.nil hA
    have hle := hs.le
    obtain rfl : ms = [] := List.eq_nil_of_length_eq_zero (by omega)
    subst hc
    have hrun := run_append_owned_none (P := Try.prog) (w := w) base 22 ty 2 i0 1 Try.underlying22 hi0 v _ _ hown'
    exact ⟨v, w, hrun, by rw [List.append_nil]; exact hown, Below.refl _ _, World.grownBy.refl _ _⟩
  | some ad =>
    subst hA
    obtain ⟨v', w', h1, h2, h3, _, _⟩ := run_append_own_at (P := Try.prog) w base 22 ty 2 i0 (.int .i64 0) 1 8 Try.underlying22 hi0 hz0 hz1 hz2 rfl (by omega) v _ _ hown' ad ms.length c (iv ms) (by rw [iv_len]; omega) hs.news (iv_one _)
      (by simp [maxLen]; omega) (by omega) hbase
    exact ⟨v', w', h1, OwnI.apps h2 rfl, (Below.refl _ _).grown h3 hbase (fun j e => (hown'.lt j e).1), h3⟩
/-- append, for the walk -/
theorem wp_app2 {w : World} {ops : Array Oper} {rest : List Oper} {o : Oper} {a : Act} {Q : Exit → Act → World → Prop} (hgd : o.guard = none) (s x : Operand) (ho : o.op = .call { callee := .builtin .append, args := #[s, x], argTypes := #[22, 22] })
    (base : Nat) (v : Value) (l : List Int) (hs : a.eval s = v) (A : Option Addr) (c : Nat) (ms : List Int) (n : Nat) (hx : a.eval x = .slice A n c) (hn : n = ms.length) (hown : OwnI w base v l) (hsrc : SlI w A c ms) (hlen : l.length + ms.length ≤ 1000000) (hbase : base ≤ w.heap.size)
    (h : ∀ v' w', Hid (OwnI w' base v' (l ++ ms)) → Hid (Below base w w') → Hid (w.grownBy w' v.ownBlock) → wpList Try.prog ops Q rest (a.put o.dst v') w') : wpList Try.prog ops Q (o :: rest) a w := by
  subst hn
  refine wpList_plain hgd fun K hK => ?_
  obtain ⟨v', w', hr, h2, h3, h4⟩ := run_app2 o.type hown hsrc hlen hbase
  unfold Oper.wp execOp
  simp only [ho, resolve, invoke, builtin, Sem.run_bind, Sem.run_pure, Result.andThen_ok, List.map_toArray, List.map_cons, List.map_nil, hs, hx, hr]
  exact hK _ _ (h v' w' (Lib.hid h2) (Lib.hid h3) (Lib.hid h4))
/-- append, for a region that draws -/
theorem step_app {w : World} {ops : Array Oper} {o : Oper} {a : Act} {K : Act → World → Prop} {Q : Exit → Act → World → Prop} {E : Prop} (hgd : o.guard = none) (s x : Operand) (ho : o.op = .call { callee := .builtin .append, args := #[s, x], argTypes := #[22, 22] })
    (base : Nat) (v : Value) (l : List Int) (hs : a.eval s = v) (A : Option Addr) (c : Nat) (ms : List Int) (n : Nat) (hx : a.eval x = .slice A n c) (hn : n = ms.length) (hown : OwnI w base v l) (hsrc : SlI w A c ms) (hlen : l.length + ms.length ≤ 1000000) (hbase : base ≤ w.heap.size)
    (h : ∀ v' w', Hid (OwnI w' base v' (l ++ ms)) → Hid (Below base w w') → K (a.put o.dst v') w') :
    if Region.wanted o (yielded ops a.tmps) = true then Oper.wp Try.prog o a w K Q else E := by
  subst hn
  have hw : Region.wanted o (yielded ops a.tmps) = true := by simp [Region.wanted, hgd]
  rw [if_pos hw]
  obtain ⟨v', w', hr, h2, h3⟩ := run_app o.type hown hsrc hlen hbase
  unfold Oper.wp execOp
  simp only [ho, resolve, invoke, builtin, Sem.run_bind, Sem.run_pure, Result.andThen_ok, List.map_toArray, List.map_cons, List.map_nil, hs, hx, hr]
  exact h v' w' (Lib.hid h2) (Lib.hid h3)
theorem SlI.head {w : World} {A : Option Addr} {c : Nat} {l : List Int} (h : SlI w A c l) (i : Nat) : SlI w A c (l.take i) := ⟨h.rd.part i, by have := h.le; rw [List.length_take]; omega, h.max, h.nil⟩
theorem SlI.rest {w : World} {A : Option Addr} {c : Nat} {l : List Int} (h : SlI w A c l) (i : Nat) (hi : i ≤ l.length) : SlI w (if c = i then A else A.map fun x => x.add i) (c - i) (l.drop i) :=
  ⟨h.rd.cut h.le i, by have := h.le; rw [List.length_drop]; omega, by have := h.max; omega, fun hA => by
    by_cases hc : c = i
    · omega
    · rw [if_neg hc] at hA
      cases A with
      | none => have := h.nil rfl; omega
      | some a => cases hA⟩
theorem OwnI.sl_of {w : World} {base c : Nat} {A : Option Addr} {l : List Int} (h : OwnI w base (.slice A l.length c) l) : SlI w A c l := by
  obtain ⟨A', c', e, hs⟩ := h.sl
  injection e with e1 _ e3
  subst e1; subst e3
  exact hs
theorem OwnI.kind {W : World} {base g : Nat} {v : Value} {l : List Int} (h : OwnI W base v l) (hg : v.ownBlock = some g) : ∃ cs fz, W.heap[g]? = some (.cells cs 2 fz) := by
  rcases h.2 with ⟨hv, _⟩ | ⟨g', cap, cur, hv, hb, hh, _⟩
  · subst hv; cases hg
  · subst hv
    injection hg with e
    subst e
    exact ⟨cur, _, hh⟩
theorem OwnI.far {W W' : World} {base b : Nat} {v : Value} {l : List Int} {cs : Array Value} {ty : TypeId} {fz : Nat × Nat} (h : OwnI W base v l) (hg : W.grownBy W' v.ownBlock) (ht : ty ≠ 2) (hb : W.heap[b]? = some (.cells cs ty fz)) : W'.heap[b]? = some (.cells cs ty fz) := by
  rw [hg.block b (heap_lt hb) (fun e => ?_), hb]
  obtain ⟨cs', fz', h2⟩ := h.kind e.symm
  rw [hb] at h2
  injection h2 with h2
  injection h2 with _ h3
  exact ht h3
theorem nd_apart {W W' : World} {base : Nat} {v : Value} {l : List Int} (h : OwnI W base v l) (hg : W.grownBy W' v.ownBlock) : ∀ {t : T} {p : Option Addr}, Nd W t p → Nd W' t p
  | .nil, _, hn => hn
  | .node _ _ _, _, ⟨b, pl, pr, e, hb, hl, hr⟩ => ⟨b, pl, pr, e, h.far hg (by decide) hb, nd_apart h hg hl, nd_apart h hg hr⟩
theorem Rp.grown {W W' : World} {base g : Nat} {v : Value} {l J : List Int} {t : T} {p : Option Addr} (h : OwnI W base v l) (hg : W.grownBy W' v.ownBlock) (hr : Rp W g J t p) : Rp W' g J t p := ⟨h.far hg (by decide) hr.box, nd_apart h hg hr.nd, hr.ls⟩
theorem sl_one (W : World) (x : Int) : SlI (W.alloc (.cells #[.int .i64 x] 2)) (some ⟨W.heap.size, 0, none⟩) 1 [x] := ⟨RdI_one W x, Nat.le_refl _, by omega, fun h => by cases h⟩
/-- the law's memory: its rope, and the list that it should be -/
structure L5 (w W : World) (J : List Int) (t : T) (p : Option Addr) (v : Value) : Prop where
  r : Rp W w.heap.size J t p
  o : OwnI W (w.heap.size + 1) v J
  sm : Sm J
  u : Below w.heap.size w W
theorem L5.sz {w W : World} {J : List Int} {t : T} {p : Option Addr} {v : Value} (h : L5 w W J t p v) : w.heap.size + 1 ≤ W.heap.size := by
  have := heap_lt h.r.box
  omega
theorem L5.next {w W W' : World} {J : List Int} {t : T} {p : Option Addr} {v : Value} (h : L5 w W J t p v) (kk : Below W.heap.size W W') : L5 w W' J t p v := ⟨h.r.next kk, h.o.next kk, h.sm, h.u.trans (kk.mono h.u.size)⟩
theorem L5.start (w : World) : L5 w (w.alloc (.cells #[.int .i64 0, .int .i64 0, .int .i64 0, .pointer none] 27)) [] .nil none (.slice none 0 0) :=
  ⟨⟨heap_alloc_new w _, rfl, ⟨rfl, trivial⟩⟩, ⟨by simp [iv], .inl ⟨rfl, rfl⟩⟩, Sm.nil, below_new w _⟩
/-- a rope is stored, and the list is another one -/
theorem L5.set {w W : World} {J : List Int} {t : T} {p : Option Addr} {v : Value} (hroom : Room W w.heap.size) (hn : Nd W t p) (hs : Ls J t) (ho : OwnI W (w.heap.size + 1) v J) (hsm : Sm J) (hu : Below w.heap.size w W) :
    L5 w ((((W.setCell ⟨w.heap.size, 0, none⟩ (.int .i64 t.count)).setCell ⟨w.heap.size, 1, none⟩ (.int .i64 t.total)).setCell ⟨w.heap.size, 2, none⟩ (.int .i64 t.depth)).setCell ⟨w.heap.size, 3, none⟩ (.pointer p)) J t p v :=
  ⟨⟨heap_set4 hroom, hn.set4 hroom, hs⟩, ho.set4 (Nat.lt_succ_self _), hsm, below_set4 hu (Nat.le_refl _)⟩
end Go.Proofs.Ytfkjnepafgehiaa
