/- The place where a search begins; the smallest functions. -/
import Derived.Test.YtedekcphgcmlnaaBase
import Derived.Laws.MathBits
namespace Go.Proofs.Ytedekcphgcmlnaa
open Go.RowKit

theorem and_low (z : Int) : bits .and .u64 (z % 18446744073709551616) 4294967295 = z % 18446744073709551616 % 4294967296 :=
  and_low32 _ (Int.emod_nonneg _ (by decide)) (Int.emod_lt_of_pos _ (by decide))
set_option maxHeartbeats 1000000 in
theorem mul_any (x y : Int) (hx0 : 0 ≤ x) (hx : x < 18446744073709551616) (hy0 : 0 ≤ y) (hy : y < 18446744073709551616) (w : World) :
    Calls Try.prog 33 #[.int .u64 x, .int .u64 y] w fun e w' => e = .returned (.tuple #[.int .u64 (x * y / 18446744073709551616), .int .u64 (x * y % 18446744073709551616)]) ∧ w' = w := by
  have h1 := and_low32 x hx0 hx
  have h2 := and_low32 y hy0 hy
  have hm := mul64_arith x y hx0 hx hy0 hy
  go_enter Try.func33, Try.ntmps33
  go_wp2
  simp only [IntKind.wrap_u64, and_low, hm]
  go_ret2
  exact ⟨rfl, rfl⟩
set_option maxHeartbeats 1000000 in
theorem start_any (k : Int) (n : Nat) (hn : 0 < n) (hn2 : n ≤ 1000000) (w : World) :
    Calls Try.prog 30 #[.int .u64 k, .int .i64 n] w fun e w' => e = .returned (.int .i64 (start k n)) ∧ w' = w := by
  have hk0 : 0 ≤ k * 11400714819323198485 % 18446744073709551616 := Int.emod_nonneg _ (by decide)
  have hk1 : k * 11400714819323198485 % 18446744073709551616 < 18446744073709551616 := Int.emod_lt_of_pos _ (by decide)
  have hM := mul_any (k * 11400714819323198485 % 18446744073709551616) n hk0 hk1 (by omega) (by omega) w
  have hs := start_lt k hn
  have hst : (start k n : Int) = k * 11400714819323198485 % 18446744073709551616 * n / 18446744073709551616 := by
    unfold start
    exact Int.toNat_of_nonneg (Int.ediv_nonneg (Int.mul_nonneg hk0 (by omega)) (by decide))
  rw [← hst] at hM
  have hw : IntKind.u64.wrap (k * 11400714819323198485) = k * 11400714819323198485 % 18446744073709551616 := IntKind.wrap_u64 _
  generalize k * 11400714819323198485 % 18446744073709551616 = x at *
  have hw2 : IntKind.u64.wrap (n : Int) = n := by rw [IntKind.wrap_u64]; omega
  have hw3 : IntKind.i64.wrap (start k n : Int) = start k n := IntWalk.i64_in _ (by omega)
  have HM := Lib.hid hM
  generalize start k n = s at *
  clear hM hst hk0 hk1
  go_enter Try.func30, Try.ntmps30
  go_wp2_with fail
  refine HM.out.mono ?_
  rintro e w1 ⟨rfl, rfl⟩
  go_wp2_with fail
  go_ret
  exact ⟨rfl, rfl⟩
theorem new_any (w : World) : Calls Try.prog 10 #[] w fun e w' => e = .returned (.pointer (some ⟨w.heap.size, 0, none⟩)) ∧ Mp w' w.heap.size w.heap.size [] ∧ Below w.heap.size w w' := by
  go_enter Try.func10, Try.ntmps10
  go_wp2
  go_ret
  exact ⟨rfl, ⟨⟨none, 0, new_at _ rfl, fun _ => ⟨rfl, rfl⟩, fun h => absurd rfl h⟩, fun h => absurd rfl h⟩, (Below.refl _ _).alloc (Nat.le_refl _) _⟩
theorem len_nil (w : World) : Calls Try.prog 24 #[.pointer none] w fun e w' => e = .returned (.int .i64 0) ∧ w' = w := by
  go_enter Try.func24, Try.ntmps24
  go_wp2
  go_ret
  exact ⟨rfl, rfl⟩
theorem slots_nil (w : World) : Calls Try.prog 23 #[.pointer none] w fun e w' => e = .returned (.int .i64 0) ∧ w' = w := by
  go_enter Try.func23, Try.ntmps23
  go_wp2
  go_ret
  exact ⟨rfl, rfl⟩
theorem tombs_nil (w : World) : Calls Try.prog 25 #[.pointer none] w fun e w' => e = .returned (.int .i64 0) ∧ w' = w := by
  go_enter Try.func25, Try.ntmps25
  go_wp2
  go_ret
  exact ⟨rfl, rfl⟩
theorem clear_nil (w : World) : Calls Try.prog 22 #[.pointer none] w fun e w' => e = .returned (.tuple #[]) ∧ w' = w := by
  go_enter Try.func22, Try.ntmps22
  go_wp2
  refine bodyPost_end (results_none rfl _ _ _) rfl ?_
  exact ⟨rfl, rfl⟩
theorem copy_nil (w : World) : Calls Try.prog 20 #[.pointer none] w fun e w' => e = .returned (.pointer none) ∧ w' = w := by
  go_enter Try.func20, Try.ntmps20
  go_wp2
  go_ret
  exact ⟨rfl, rfl⟩
theorem len_any {w : World} {b s : Nat} {S : List Sl} (h : Mp w b s S) : Calls Try.prog 24 #[.pointer (some ⟨b, 0, none⟩)] w fun e w' => e = .returned (.int .i64 (prs S).length) ∧ w' = w := by
  obtain ⟨A, c, h0⟩ := h.any
  have c1 := h0.c1
  clear h
  go_enter Try.func24, Try.ntmps24
  go_wp2
  go_ret
  exact ⟨rfl, rfl⟩
theorem tombs_any {w : World} {b s : Nat} {S : List Sl} (h : Mp w b s S) : Calls Try.prog 25 #[.pointer (some ⟨b, 0, none⟩)] w fun e w' => e = .returned (.int .i64 (tms S)) ∧ w' = w := by
  obtain ⟨A, c, h0⟩ := h.any
  have c2 := h0.c2
  clear h
  go_enter Try.func25, Try.ntmps25
  go_wp2
  go_ret
  exact ⟨rfl, rfl⟩
theorem slots_any {w : World} {b s : Nat} {S : List Sl} (h : Mp w b s S) : Calls Try.prog 23 #[.pointer (some ⟨b, 0, none⟩)] w fun e w' => e = .returned (.int .i64 S.length) ∧ w' = w := by
  obtain ⟨A, c, h0⟩ := h.any
  have c0 := h0.c0
  clear h
  go_enter Try.func23, Try.ntmps23
  go_wp2
  go_ret
  exact ⟨rfl, rfl⟩
theorem clear_any {w : World} {b s : Nat} {S : List Sl} (h : Mp w b s S) : Calls Try.prog 22 #[.pointer (some ⟨b, 0, none⟩)] w fun e w' => e = .returned (.tuple #[]) ∧ Mp w' b s [] ∧ Fr w w' b b := by
  obtain ⟨A, c, h0⟩ := h.any
  have hw := Lib.hid h0.whole
  have c0 := h0.c0
  have c1 := h0.c1
  have c2 := h0.c2
  have f0 := h0.frozen 0
  have f1 := h0.frozen 1
  have f2 := h0.frozen 2
  clear h h0
  go_enter Try.func22, Try.ntmps22
  go_wp2
  refine bodyPost_end (results_none rfl _ _ _) rfl ?_
  exact ⟨rfl, ⟨⟨none, 0, set3_2 (set3_1 (set3_0 hw.out)), fun _ => ⟨rfl, rfl⟩, fun h => absurd rfl h⟩, fun h => absurd rfl h⟩, (((Fr.refl w b b).setCell (.inl rfl) _).setCell (.inl rfl) _).setCell (.inl rfl) _⟩
end Go.Proofs.Ytedekcphgcmlnaa
