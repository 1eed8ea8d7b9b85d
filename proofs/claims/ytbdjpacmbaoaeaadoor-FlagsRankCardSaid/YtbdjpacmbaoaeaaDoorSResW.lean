/- The walks of result, Clip, stretch, within. -/
import Derived.Test.YtbdjpacmbaoaeaaDoorSBase
import Derived.Test.YtbdjpacmbaoaeaaDoorSSet
namespace Go.Proofs.YtbdjpacmbaoaeaaDoor.S
open Go.RowKit

set_option maxHeartbeats 400000 in
theorem clip_any (A : Option Addr) (n c : Nat) (w : World) (hn : n ≤ c) :
    Calls Tryd.prog 44 #[.slice A n c] w fun e w' => e = .returned (.slice A n n) ∧ w = w' := by
  have h1 : (0 : Int) ≤ (n : Int) := Int.natCast_nonneg _
  have h2 : (n : Int) ≤ (c : Int) := by omega
  go_enter Tryd.func44, Tryd.ntmps44
  go_wp2
  go_ret
  exact ⟨rfl, rfl⟩

set_option maxHeartbeats 400000 in
theorem within_any (x : Int) (w : World) :
    Calls Tryd.prog 46 #[.int .i64 x] w fun e w' => e = .returned (.bool (okP x)) ∧ w = w' := by
  by_cases h1 : 0 ≤ x
  · by_cases h2 : x ≤ 1073741824
    · go_enter Tryd.func46, Tryd.ntmps46
      go_wp2
      go_ret
      exact ⟨ret_bool (okP_t h1 h2).symm, rfl⟩
    · have : decide (x ≤ 1073741824) = false := by simp; omega
      go_enter Tryd.func46, Tryd.ntmps46
      go_wp2
      go_ret
      exact ⟨ret_bool (okP_f (by omega)).symm, rfl⟩
  · have : decide (0 ≤ x) = false := by simp; omega
    go_enter Tryd.func46, Tryd.ntmps46
    go_wp2
    go_ret
    exact ⟨ret_bool (okP_f (by omega)).symm, rfl⟩

set_option maxHeartbeats 400000 in
theorem result_ok (A : Option Addr) (n c : Nat) (w : World) (hn : n ≤ c) (h4 : n ≤ 4096) :
    Calls Tryd.prog 48 #[.slice A n c] w fun e w' => e = .returned (.tuple #[.slice A n n, .int .i64 0]) ∧ w = w' := by
  go_enter Tryd.func48, Tryd.ntmps48
  go_wp2_with (go_at_call 44; refine (clip_any _ _ _ _ hn).mono ?_; rintro e w1 ⟨rfl, rfl⟩)
  go_ret2
  exact ⟨rfl, rfl⟩
set_option maxHeartbeats 400000 in
theorem result_no (A : Option Addr) (n c : Nat) (w : World) (hn : n ≤ 4611686018427387904) (h4 : 4096 < n) :
    Calls Tryd.prog 48 #[.slice A n c] w fun e w' => e = .returned (.tuple #[.slice none 0 0, .int .i64 3]) ∧ w = w' := by
  go_enter Tryd.func48, Tryd.ntmps48
  go_wp2
  go_ret2
  exact ⟨rfl, rfl⟩

/-- what a call hands back that makes the set with the places m: the list that the set has, or 'too many spans' -/
def SetRes (m : Int → Bool) (e : Ending) (w' : World) : Prop :=
  ∃ out : List Sp, Val (-1) out ∧ (∀ i, hasB out i = m i) ∧
    ((out.length ≤ 4096 ∧ ∃ A, e = .returned (.tuple #[.slice A out.length out.length, .int .i64 0]) ∧ Rd w' w'.heap.size A out) ∨
     (4096 < out.length ∧ e = .returned (.tuple #[.slice none 0 0, .int .i64 3])))
end Go.Proofs.YtbdjpacmbaoaeaaDoor.S
