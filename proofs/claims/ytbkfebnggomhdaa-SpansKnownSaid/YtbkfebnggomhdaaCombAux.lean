/- What the walks of combine share. -/
import Derived.Test.YtbkfebnggomhdaaSet
import Derived.Test.YtbkfebnggomhdaaCheckW
import Derived.Test.YtbkfebnggomhdaaAddW
import Derived.Test.YtbkfebnggomhdaaResW
namespace Go.Proofs.Ytbkfebnggomhdaa
open Go.RowKit
def lenV : Value → Nat
  | .slice _ n _ => n
  | _ => 0
/-- what each round of the sweep makes less -/
def measC (a b : Nat) (t : Int) : Nat := (a + b) * 1073741826 + (1073741825 - t.toNat)
theorem meas_lt {a b : Nat} {t E : Int} (h0 : 0 ≤ t) (h : t < E) (hE : E ≤ 1073741824) : measC a b E < measC a b t := by unfold measC; omega
theorem meas_a {a b a' : Nat} {t : Int} (h : 0 < a) (e : a' = a - 1) : measC a' b t < measC a b t := by unfold measC; omega
theorem meas_b {a b b' : Nat} {t : Int} (h : 0 < b) (e : b' = b - 1) : measC a b' t < measC a b t := by unfold measC; omega
theorem notat {ys : List Sp} {t : Int} (h : ys = [] ∨ ∃ s r, ys = s :: r ∧ s.2 ≠ t) : ∀ s r, ys = s :: r → s.2 ≠ t := by
  rintro s r rfl
  rcases h with h | ⟨s', r', h, hn⟩
  · cases h
  · cases h; exact hn
theorem hpop_cases (ya yb : List Sp) (t : Int) : (∃ s r, ya = s :: r ∧ s.2 = t) ∨ ((ya = [] ∨ ∃ s r, ya = s :: r ∧ s.2 ≠ t) ∧ ((∃ s r, yb = s :: r ∧ s.2 = t) ∨ (ya = [] ∧ yb = []) ∨
    ((yb = [] ∨ ∃ s r, yb = s :: r ∧ s.2 ≠ t) ∧ ¬ (ya = [] ∧ yb = [])))) := by
  rcases ya with _ | ⟨s, r⟩ <;> rcases yb with _ | ⟨s', r'⟩
  · exact .inr ⟨.inl rfl, .inr (.inl ⟨rfl, rfl⟩)⟩
  · by_cases h : s'.2 = t
    · exact .inr ⟨.inl rfl, .inl ⟨_, _, rfl, h⟩⟩
    · exact .inr ⟨.inl rfl, .inr (.inr ⟨.inr ⟨_, _, rfl, h⟩, by simp⟩)⟩
  · by_cases h : s.2 = t
    · exact .inl ⟨_, _, rfl, h⟩
    · exact .inr ⟨.inr ⟨_, _, rfl, h⟩, .inr (.inr ⟨.inl rfl, by simp⟩)⟩
  · by_cases h : s.2 = t
    · exact .inl ⟨_, _, rfl, h⟩
    · by_cases h' : s'.2 = t
      · exact .inr ⟨.inr ⟨_, _, rfl, h⟩, .inl ⟨_, _, rfl, h'⟩⟩
      · exact .inr ⟨.inr ⟨_, _, rfl, h⟩, .inr (.inr ⟨.inr ⟨_, _, rfl, h'⟩, by simp⟩)⟩
end Go.Proofs.Ytbkfebnggomhdaa
