/- A scope whose code jumps back to a label: an invariant that bears a number. -/
import Derived.WalkKit
import Derived.Scope
namespace Go.Proofs.Ytedekcphgcmlnaa

/-- a jump to the label l meets G -/
def goes (l : Nat) (G : Act → World → Prop) (Q : Exit → Act → World → Prop) : Exit → Act → World → Prop
  | .goto l', a, w => l' = l ∧ G a w
  | e, a, w => Q e a w
theorem goes_ret (l : Nat) (G : Act → World → Prop) (Q : Exit → Act → World → Prop) (a : Act) (w : World) : goes l G Q .ret a w = Q .ret a w := rfl
theorem goes_goto {l : Nat} {G : Act → World → Prop} {Q : Exit → Act → World → Prop} {a : Act} {w : World} (h : G a w) : goes l G Q (.goto l) a w := ⟨rfl, h⟩
theorem wp_scope_goto {P : Program} {Q : Exit → Act → World → Prop} {a : Act} {w : World} {c r : Code} (l : Nat) (hf : findLabel c l = some (.seq .skip r)) (I : Nat → Act → World → Prop)
    (h0 : ∀ J : Act → World → Prop, (∀ n a w, I n a w → r.wp P (goes l J Q) a w) → c.wp P (goes l J Q) a w)
    (round : ∀ n a w, I n a w → ∀ J : Act → World → Prop, (∀ k a' w', k < n → I k a' w' → J a' w') → r.wp P (goes l J Q) a w) : (Code.scope c).wp P Q a w := by
  intro b k cs
  have hk : gotoIn l (.inScope c :: k) = some (.code (.seq .skip r) :: .inScope c :: k) := by simp [gotoIn, hf]
  have pass : ∀ (m : Machine) (e : Exit) (a1 : Act) (w1 : World), Arrives P m b (.inScope c :: k) cs e a1 w1 → (∀ l', e ≠ .goto l') → Arrives P m b k cs e a1 w1 := by
    intro m e a1 w1 h hne
    cases e with
    | normal => exact Steps.trans h (.one step_inScope)
    | exit id => exact fun k' hk' => h k' (by simp [exitTo, hk'])
    | goto l' => exact absurd rfl (hne l')
    | ret => exact h
    | panic ch => exact h
    | outgrown => exact h
  have key : ∀ n a w, I n a w → ∃ e a' w', Q e a' w' ∧ Arrives P (lone (b.at a (.code (.seq .skip r) :: .inScope c :: k)) cs w) b k cs e a' w' := by
    intro n
    induction n using Nat.strongRecOn with
    | _ n ih =>
      intro a w hI
      obtain ⟨e, a1, w1, hq, harr⟩ := wp_seq (wp_skip (round n a w hI (fun a' w' => ∃ k, k < n ∧ I k a' w') (fun k a' w' hk hI => ⟨k, hk, hI⟩))) b (.inScope c :: k) cs
      cases e with
      | goto l' =>
        obtain ⟨rfl, m, hm, hI1⟩ := hq
        obtain ⟨e2, a2, w2, hq2, harr2⟩ := ih m hm a1 w1 hI1
        exact ⟨e2, a2, w2, hq2, .of_steps (harr _ hk) harr2⟩
      | normal => exact ⟨_, a1, w1, hq, pass _ _ _ _ harr (fun _ h => by cases h)⟩
      | exit id => exact ⟨_, a1, w1, hq, pass _ _ _ _ harr (fun _ h => by cases h)⟩
      | ret => exact ⟨_, a1, w1, hq, pass _ _ _ _ harr (fun _ h => by cases h)⟩
      | panic ch => exact ⟨_, a1, w1, hq, pass _ _ _ _ harr (fun _ h => by cases h)⟩
      | outgrown => exact ⟨_, a1, w1, hq, pass _ _ _ _ harr (fun _ h => by cases h)⟩
  obtain ⟨e, a1, w1, hq, harr⟩ := h0 (fun a' w' => ∃ n, I n a' w') (fun n a' w' h => round n a' w' h _ (fun k a2 w2 _ hI => ⟨k, hI⟩)) b (.inScope c :: k) cs
  cases e with
  | goto l' =>
    obtain ⟨rfl, n, hI⟩ := hq
    obtain ⟨e2, a2, w2, hq2, harr2⟩ := key n a1 w1 hI
    exact ⟨e2, a2, w2, hq2, .of_steps (.head step_scope (harr _ hk)) harr2⟩
  | normal => exact ⟨_, a1, w1, hq, .of_steps (.one step_scope) (pass _ _ _ _ harr (fun _ h => by cases h))⟩
  | exit id => exact ⟨_, a1, w1, hq, .of_steps (.one step_scope) (pass _ _ _ _ harr (fun _ h => by cases h))⟩
  | ret => exact ⟨_, a1, w1, hq, .of_steps (.one step_scope) (pass _ _ _ _ harr (fun _ h => by cases h))⟩
  | panic ch => exact ⟨_, a1, w1, hq, .of_steps (.one step_scope) (pass _ _ _ _ harr (fun _ h => by cases h))⟩
  | outgrown => exact ⟨_, a1, w1, hq, .of_steps (.one step_scope) (pass _ _ _ _ harr (fun _ h => by cases h))⟩
end Go.Proofs.Ytedekcphgcmlnaa
