/- Two rows of the call's own that are appended to in turns; a memory with a box. -/
import Derived.Test.YtakgnpmfnechhaaM5
namespace Go.Proofs.Ytakgnpmfnechhaa
open Go.RowKit

/-- append, for the walk, with what is known of where the new row lies -/
theorem wp_app3 {w : World} {ops : Array Oper} {rest : List Oper} {o : Oper} {a : Act} {Q : Exit → Act → World → Prop} (hgd : o.guard = none) (s x : Operand) (ho : o.op = .call { callee := .builtin .append, args := #[s, x], argTypes := #[22, 22] })
    (base : Nat) (v : Value) (l : List Int) (hs : a.eval s = v) (b c : Nat) (y : Int) (hx : a.eval x = .slice (some ⟨b, 0, none⟩) 1 c) (hk : w.cell? ⟨b, 0, none⟩ = some (.int .i64 y)) (hown : OwnI w base v l) (hlen : l.length ≤ 1000000) (hbase : base ≤ w.heap.size)
    (h : ∀ v' w', Hid (OwnI w' base v' (l ++ [y])) → Hid (Below base w w') → Hid (w.grownBy w' v.ownBlock) → Hid (v'.ownBlock = v.ownBlock ∨ v'.ownBlock = some w.heap.size) → wpList Try.prog ops Q rest (a.put o.dst v') w') : wpList Try.prog ops Q (o :: rest) a w := by
  refine wpList_plain hgd fun K hK => ?_
  obtain ⟨i0, hi0, hz0, hz1, hz2⟩ := info_parts info3
  have hown' : w.ownsRow base 3 1 v l.length (iv l) := hown
  obtain ⟨v', w', hr, h2, h3, _, h5⟩ := run_append_own_at (P := Try.prog) w base 22 o.type 3 i0 (.int .i64 0) 1 8 Try.underlying22 hi0 hz0 hz1 hz2 rfl (by omega) v _ _ hown' ⟨b, 0, none⟩ 1 c [.int .i64 y] rfl (fun j u hj => by
    match j, hj with
    | 0, hj => injection hj with hj; subst hj; rw [add_plain]; exact hk) (fun u hu => by simp at hu; subst hu; rfl) (by simp [maxLen]; omega) (by omega) hbase
  unfold Oper.wp execOp
  simp only [ho, resolve, invoke, builtin, Sem.run_bind, Sem.run_pure, Result.andThen_ok, List.map_toArray, List.map_cons, List.map_nil, hs, hx, hr]
  exact hK _ _ (h v' w' (Lib.hid (by unfold OwnI; rw [iv_app, List.length_append]; exact h2)) (Lib.hid ((Below.refl _ _).grown h3 hbase (fun j e => (hown'.lt j e).1))) (Lib.hid h3) (Lib.hid h5))
structure TwI (W0 wr : World) (x y : Value) (X Y : List Int) : Prop where
  a : OwnI wr W0.heap.size x X
  b : OwnI wr W0.heap.size y Y
  ap : x.ownBlock = none ∨ x.ownBlock ≠ y.ownBlock
  u : Below W0.heap.size W0 wr
theorem TwI.start (W : World) : TwI W W (.slice none 0 0) (.slice none 0 0) [] [] := ⟨own_nil _ _, own_nil _ _, .inl rfl, Below.refl _ _⟩
theorem TwI.next {W0 wr w' : World} {x y : Value} {X Y : List Int} (h : TwI W0 wr x y X Y) (hb : Below wr.heap.size wr w') : TwI W0 w' x y X Y := ⟨h.a.next hb, h.b.next hb, h.ap, h.u.trans (hb.mono h.u.size)⟩
theorem TwI.ap2 {W0 wr : World} {x y : Value} {X Y : List Int} (h : TwI W0 wr x y X Y) : y.ownBlock = none ∨ y.ownBlock ≠ x.ownBlock := by
  rcases h.ap with h1 | h1
  · by_cases hy : y.ownBlock = none
    · exact .inl hy
    · exact .inr fun e => hy (e.trans h1)
  · exact .inr fun e => h1 e.symm
theorem TwI.putA {W0 wr w' : World} {x y x' : Value} {X Y X' : List Int} (h : TwI W0 wr x y X Y) (h1 : OwnI w' W0.heap.size x' X') (hb : Below W0.heap.size wr w') (hg : wr.grownBy w' x.ownBlock) (ha : x'.ownBlock = x.ownBlock ∨ x'.ownBlock = some wr.heap.size) : TwI W0 w' x' y X' Y := by
  refine ⟨h1, World.ownsRow.kept h.b hg h.ap2, ?_, h.u.trans hb⟩
  rcases ha with e | e
  · rw [e]; exact h.ap
  · refine .inr fun e2 => ?_
    rw [e] at e2
    have := (World.ownsRow.lt h.b _ e2.symm).2
    omega
theorem TwI.putB {W0 wr w' : World} {x y y' : Value} {X Y Y' : List Int} (h : TwI W0 wr x y X Y) (h1 : OwnI w' W0.heap.size y' Y') (hb : Below W0.heap.size wr w') (hg : wr.grownBy w' y.ownBlock) (ha : y'.ownBlock = y.ownBlock ∨ y'.ownBlock = some wr.heap.size) : TwI W0 w' x y' X Y' := by
  refine ⟨World.ownsRow.kept h.a hg h.ap, h1, ?_, h.u.trans hb⟩
  rcases ha with e | e
  · rw [e]; exact h.ap
  · refine .inr fun e2 => ?_
    rw [e] at e2
    have := (World.ownsRow.lt h.a _ e2).2
    omega
/-- what is in memory, with one box more -/
structure M6 (w W : World) (ms : List MR) (rs : List RR) (g3 : Nat) (o3 : Obj) : Prop where
  mm : MM w W ms rs
  b3 : W.heap[g3]? = some o3
section
variable {w W W' : World} {ms : List MR} {rs : List RR} {g3 : Nat} {o3 : Obj}
theorem M6.next (h : M6 w W ms rs g3 o3) (hb : Below W.heap.size W W') : M6 w W' ms rs g3 o3 := ⟨h.mm.next hb, keep_heap hb h.b3⟩
theorem M6.pushM (h : M6 w W ms rs g3 o3) {o : Int} {A : Option Addr} {c n : Nat} {l : List Int} (hn : l.length = n) (hs : SlI W A c l) :
    M6 w (W.alloc (.cells #[.int .i64 o, .slice A n c] 24)) (⟨W.heap.size, o, A, c, l⟩ :: ms) rs g3 o3 :=
  ⟨h.mm.pushM hn hs, (h.next (below_new W (.cells #[.int .i64 o, .slice A n c] 24))).b3⟩
theorem M6.pushR (h : M6 w W ms rs g3 o3) {A : Option Addr} {c : Nat} {l : List Int} (hs : SlI W A c l) : M6 w W ms (⟨A, c, l⟩ :: rs) g3 o3 := ⟨h.mm.pushR hs, h.b3⟩
theorem M6.at (h : M6 w W ms rs g3 o3) (i : Nat) {g : Nat} {o : Int} {A : Option Addr} {c : Nat} {l : List Int} (hm : ms[i]? = some ⟨g, o, A, c, l⟩) : Mv W g o A c l := h.mm.at i hm
theorem M6.row (h : M6 w W ms rs g3 o3) (i : Nat) {A : Option Addr} {c : Nat} {l : List Int} (hm : rs[i]? = some ⟨A, c, l⟩) : SlI W A c l := h.mm.row i hm
theorem M6.u (h : M6 w W ms rs g3 o3) : Below w.heap.size w W := h.mm.u
end
theorem own_sl_n {W : World} {base n : Nat} {v : Value} {l : List Int} (h : OwnI W base v l) (hn : l.length = n) : ∃ A c, v = .slice A n c ∧ SlI W A c l := by
  subst hn; exact h.sl
end Go.Proofs.Ytakgnpmfnechhaa
