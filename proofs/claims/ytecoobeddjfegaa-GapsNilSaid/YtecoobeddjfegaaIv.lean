/- A slice that reads as a list of integers. -/
import Derived.Test.YtecoobeddjfegaaRdV
namespace Go.Proofs.Ytecoobeddjfegaa
open Go.RowKit
/-- a list of integers as values -/
def iv (zs : List Int) : List Value := zs.map (Value.int .i64)
theorem iv_len (zs : List Int) : (iv zs).length = zs.length := by simp [iv]
theorem iv_one (zs : List Int) : ∀ u ∈ iv zs, u.oneCell' = true := by
  intro u hu
  obtain ⟨x, _, rfl⟩ := List.mem_map.1 hu
  rfl
end Go.Proofs.Ytecoobeddjfegaa
