/- Walks of checkPart, place, At, Gap and take. -/
import Derived.Test.YtecoobeddjfegaaShiftbI
namespace Go.Proofs.Ytecoobeddjfegaa
open Go.RowKit

theorem igap_any {w : World} {b S N g e n : Nat} {A : Option Addr} {xs : List Value} (h : Buf 3 39 w b A S N g e n xs) :
    Calls Try.prog 16 #[.pointer (some ⟨b, 0, none⟩)] w fun r w' => r = .returned (.int .i64 g) ∧ w' = w := by
  have c1 := h.c1
  clear h
  go_enter Try.func16, Try.ntmps16
  go_wp2
  go_ret
  exact ⟨rfl, rfl⟩
theorem icheck_nil {w : World} (i k : Int) : Calls Try.prog 25 #[.pointer none, .int .i64 i, .int .i64 k] w fun r w' => r = .returned (.int .i64 2) ∧ w' = w := by
  go_enter Try.func25, Try.ntmps25
  go_wp2
  go_ret
  exact ⟨rfl, rfl⟩
theorem icheck_any {w : World} {b S N g e n : Nat} {A : Option Addr} {xs : List Value} (h : Buf 3 39 w b A S N g e n xs) (i k : Int) (hi : i ≤ 9223372036854775807) :
    Calls Try.prog 25 #[.pointer (some ⟨b, 0, none⟩), .int .i64 i, .int .i64 k] w fun r w' => r = .returned (.int .i64 (if 0 ≤ i ∧ 0 ≤ k ∧ i + k ≤ n then 0 else 4)) ∧ ∃ m, w' = w.drewN m := by
  have HL := Lib.hid (ilen_any h)
  have hn : n ≤ 4096 := by have := h.max; have := h.s2; have := h.ge; omega
  clear h
  by_cases h1 : i < 0
  · rw [if_neg (by omega)]
    go_enter Try.func25, Try.ntmps25
    go_wp2_with fail
    go_ret
    exact ⟨rfl, 0, rfl⟩
  · have d1 : decide (i < 0) = false := by simpa using h1
    by_cases h2 : k < 0
    · rw [if_neg (by omega)]
      go_enter Try.func25, Try.ntmps25
      go_wp2_with fail
      go_ret
      exact ⟨rfl, 0, rfl⟩
    · have d2 : decide (k < 0) = false := by simpa using h2
      by_cases h3 : i + k ≤ n
      · have d3 : decide ((n : Int) - i < k) = false := by simp; omega
        rw [if_pos (by omega)]
        go_enter Try.func25, Try.ntmps25
        go_wp2_with fail
        refine HL.out.mono ?_
        rintro e w' ⟨rfl, m, rfl⟩
        go_wp2_with fail
        go_ret
        exact ⟨rfl, m, rfl⟩
      · have d3 : (n : Int) - i < k := by omega
        rw [if_neg (by omega)]
        go_enter Try.func25, Try.ntmps25
        go_wp2_with fail
        refine HL.out.mono ?_
        rintro e w' ⟨rfl, m, rfl⟩
        go_wp2_with fail
        go_ret
        exact ⟨rfl, m, rfl⟩
end Go.Proofs.Ytecoobeddjfegaa
