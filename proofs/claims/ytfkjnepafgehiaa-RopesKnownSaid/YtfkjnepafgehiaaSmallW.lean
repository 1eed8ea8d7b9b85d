/- Walks of what only reads: checkPart, checkJoin, Len, Total, Depth, At, Sum, Find. -/
import Derived.Test.YtfkjnepafgehiaaSpreadW
import Derived.Test.YtfkjnepafgehiaaFBase
import Derived.Deep.LoopGhost
import Derived.IntWalk
namespace Go.Proofs.Ytfkjnepafgehiaa
open Go.RowKit

/-- the error of n sizes from an index on -/
def partE (k : Nat) (at_ n : Int) : Int := if at_ < 0 ∨ n < 0 ∨ (k : Int) - at_ < n then 4 else 0
theorem partE_ok {k i n : Nat} (h : i + n ≤ k) : partE k i n = 0 := by unfold partE; rw [if_neg (by omega)]
theorem partE_bad {k : Nat} {at_ n : Int} (h : at_ < 0 ∨ n < 0 ∨ (k : Int) - at_ < n) : partE k at_ n = 4 := by unfold partE; rw [if_pos h]
theorem partE_cases {k : Nat} {at_ n : Int} (h : partE k at_ n = 0) : ∃ i m : Nat, at_ = i ∧ n = m ∧ i + m ≤ k := by
  unfold partE at h
  split at h
  · omega
  · exact ⟨at_.toNat, n.toNat, by omega, by omega, by omega⟩

set_option maxHeartbeats 1000000 in
theorem part_any (k : Nat) (x d : Int) (p : Option Addr) (at_ n : Int) (w : World) (hk : k ≤ 4096) (ha : at_ ≤ 9223372036854775807) :
    Calls Try.prog 43 #[.agg #[.int .i64 k, .int .i64 x, .int .i64 d, .pointer p], .int .i64 at_, .int .i64 n] w fun e w' => e = .returned (.int .i64 (partE k at_ n)) ∧ w.alloc (.cells #[.int .i64 k, .int .i64 x, .int .i64 d, .pointer p] 27) = w' := by
  by_cases h1 : at_ < 0
  · have HP := Lib.hid (partE_bad (k := k) (n := n) (.inl h1))
    go_enter Try.func43, Try.ntmps43
    go_wp2_with fail
    go_ret
    exact ⟨ret_int HP.out.symm, rfl⟩
  · by_cases h2 : n < 0
    · have HP := Lib.hid (partE_bad (k := k) (at_ := at_) (.inr (.inl h2)))
      go_enter Try.func43, Try.ntmps43
      go_wp2_with fail
      go_ret
      exact ⟨ret_int HP.out.symm, rfl⟩
    · by_cases h3 : (k : Int) - at_ < n
      · have HP := Lib.hid (partE_bad (.inr (.inr h3)))
        go_enter Try.func43, Try.ntmps43
        go_wp2_with fail
        go_ret
        exact ⟨ret_int HP.out.symm, rfl⟩
      · have HP : Hid (partE k at_ n = 0) := Lib.hid (by unfold partE; rw [if_neg (by omega)])
        go_enter Try.func43, Try.ntmps43
        go_wp2_with fail
        go_ret
        exact ⟨ret_int HP.out.symm, rfl⟩

/-- the error of two ropes that are put together -/
def joinE (a b : List Int) : Int := if 4096 < a.length + b.length then 3 else if 4611686018427387904 - a.sum < b.sum then 13 else 0
theorem joinE_ok {a b : List Int} (h : Ok (a ++ b)) : joinE a b = 0 := by
  have h1 := h.len
  have h2 := h.sum
  simp at h1 h2
  unfold joinE
  rw [if_neg (by omega), if_neg (by omega)]
theorem ok_of_joinE {a b : List Int} (ha : Ok a) (hb : Ok b) (h : joinE a b = 0) : Ok (a ++ b) := by
  unfold joinE at h
  split at h
  · omega
  · split at h
    · omega
    · refine ⟨fun x hx => ?_, by simp; omega, by simp; omega⟩
      rcases List.mem_append.1 hx with h' | h'
      · exact ha.nn x h'
      · exact hb.nn x h'

set_option maxHeartbeats 1000000 in
theorem joinE_any {a b : T} {pa pb : Option Addr} {w : World} (ha : Ok a.list) (hb : Ok b.list) :
    Calls Try.prog 48 #[.agg #[.int .i64 a.count, .int .i64 a.total, .int .i64 a.depth, .pointer pa], .agg #[.int .i64 b.count, .int .i64 b.total, .int .i64 b.depth, .pointer pb]] w
      fun e w' => e = .returned (.int .i64 (joinE a.list b.list)) ∧ Below w.heap.size w w' := by
  obtain ⟨a1, a2, a3, a4⟩ := T.bounds ha
  obtain ⟨b1, b2, b3, b4⟩ := T.bounds hb
  have HB := Lib.hid (((Below.refl w.heap.size w).alloc (Nat.le_refl _) (.cells #[.int .i64 a.count, .int .i64 a.total, .int .i64 a.depth, .pointer pa] 27)).alloc (by simp) (.cells #[.int .i64 b.count, .int .i64 b.total, .int .i64 b.depth, .pointer pb] 27))
  unfold joinE
  rw [T.len, T.len, T.sum, T.sum]
  clear ha hb
  by_cases h1 : 4096 < a.count + b.count
  · rw [if_pos h1]
    have e1 : (4096 : Int) < (a.count : Int) + (b.count : Int) := by omega
    go_enter Try.func48, Try.ntmps48
    go_wp2_with fail
    go_ret
    exact ⟨rfl, HB.out⟩
  · rw [if_neg h1]
    have e1 : decide ((4096 : Int) < (a.count : Int) + (b.count : Int)) = false := by simp; omega
    by_cases h2 : 4611686018427387904 - a.total < b.total
    · rw [if_pos h2]
      go_enter Try.func48, Try.ntmps48
      go_wp2_with fail
      go_ret
      exact ⟨rfl, HB.out⟩
    · rw [if_neg h2]
      go_enter Try.func48, Try.ntmps48
      go_wp2_with fail
      go_ret
      exact ⟨rfl, HB.out⟩

theorem len_any (c x d : Int) (p : Option Addr) (w : World) : Calls Try.prog 36 #[.agg #[.int .i64 c, .int .i64 x, .int .i64 d, .pointer p]] w fun e w' => e = .returned (.int .i64 c) ∧ w.alloc (.cells #[.int .i64 c, .int .i64 x, .int .i64 d, .pointer p] 27) = w' := by
  go_enter Try.func36, Try.ntmps36
  go_wp2_with fail
  go_ret
  exact ⟨rfl, rfl⟩
theorem total_any (c x d : Int) (p : Option Addr) (w : World) : Calls Try.prog 26 #[.agg #[.int .i64 c, .int .i64 x, .int .i64 d, .pointer p]] w fun e w' => e = .returned (.int .i64 x) ∧ w.alloc (.cells #[.int .i64 c, .int .i64 x, .int .i64 d, .pointer p] 27) = w' := by
  go_enter Try.func26, Try.ntmps26
  go_wp2_with fail
  go_ret
  exact ⟨rfl, rfl⟩
theorem depth_any (c x d : Int) (p : Option Addr) (w : World) : Calls Try.prog 35 #[.agg #[.int .i64 c, .int .i64 x, .int .i64 d, .pointer p]] w fun e w' => e = .returned (.int .i64 d) ∧ w.alloc (.cells #[.int .i64 c, .int .i64 x, .int .i64 d, .pointer p] 27) = w' := by
  go_enter Try.func35, Try.ntmps35
  go_wp2_with fail
  go_ret
  exact ⟨rfl, rfl⟩
end Go.Proofs.Ytfkjnepafgehiaa
