/- The walk of take. -/
import Derived.Test.YtecoobeddjfegaaTakeS
namespace Go.Proofs.Ytecoobeddjfegaa
open Go.RowKit

theorem sshift_any {w : World} {b S N g e n : Nat} {A : Option Addr} {xs : List Value} (h : Buf 9 53 w b A S N g e n xs) (to : Nat) (ht : to ≤ n) (hN : 0 < N) :
    Calls Try.prog 41 #[.pointer (some ⟨b, 0, none⟩), .int .i64 to] w fun q w' => q = .returned (.tuple #[]) ∧ Buf 9 53 w' b A S N to (to + (e - g)) n xs ∧ Fr w w' b S := by
  by_cases h1 : to < g
  · exact sshift_left h to _ h1 rfl
  · exact sshift_right h to _ (by omega) ht hN rfl
theorem stake_none {w : World} {p : Value} (i : Int) :
    Calls Try.prog 34 #[p, .int .i64 i, .int .i64 0] w fun q w' => q = .returned (.tuple #[]) ∧ w' = w := by
  go_enter Try.func34, Try.ntmps34
  go_wp2_with fail
  refine bodyPost_ret (results_none rfl _ _ _) rfl ?_
  exact ⟨rfl, rfl⟩
set_option maxHeartbeats 1000000 in
theorem stake_any {w : World} {b S N g e n : Nat} {A : Option Addr} {xs : List Value} (h : Buf 9 53 w b A S N g e n xs) (i k : Nat) (hk : 0 < k) (hn : i + k ≤ n) :
    Calls Try.prog 34 #[.pointer (some ⟨b, 0, none⟩), .int .i64 i, .int .i64 k] w fun q w' => q = .returned (.tuple #[]) ∧ (∃ z, Buf 9 53 w' b A S N i z (n - k) (xs.take i ++ xs.drop (i + k))) ∧ Fr w w' b S := by
  have c1 := h.c1
  have h1 := h.ge
  have h2 := h.eN
  have h3 := h.max
  have h4 := h.gn
  have s1 := h.s1
  have s2 := h.s2
  obtain ⟨q, hq, hq1, hq2⟩ : ∃ q : Nat, (i : Int) + k = (q : Int) ∧ q ≤ i + k ∧ i + k ≤ q := ⟨i + k, by omega, by omega, by omega⟩
  obtain ⟨M, hM, hM1, hM2, hM3⟩ : ∃ M : Nat, (if g < i then (i : Int) else (g : Int)) = (M : Int) ∧ g ≤ M ∧ i ≤ M ∧ (M ≤ g ∨ M ≤ i) := ⟨max g i, by split <;> omega, by omega, by omega, by omega⟩
  obtain ⟨to, ht, ht1, ht2, ht3, ht4⟩ : ∃ to : Nat, (if q < M then (q : Int) else (M : Int)) = (to : Int) ∧ i ≤ to ∧ to ≤ q ∧ to ≤ n ∧ to ≤ N := ⟨min q M, by split <;> omega, by omega, by omega, by omega, by omega⟩
  have hk0 : ((k : Int) == 0) = false := by simp; omega
  obtain ⟨p, hp⟩ : ∃ p, p = to + (e - g) := ⟨_, rfl⟩
  have hs := sshift_any h to ht3 (by omega)
  rw [← hp] at hs
  have HS := Lib.hid hs
  have p1 : p ≤ N := by omega
  obtain ⟨z, hz, hz1, hz2, hz3⟩ : ∃ z : Nat, (p : Int) + i + k - to = (z : Int) ∧ p ≤ z ∧ z ≤ N ∧ z = p + (i + k - to) := ⟨p + (i + k - to), by omega, by omega, by omega, rfl⟩
  have HZ := Lib.hid hz3
  have HP := Lib.hid hp
  have n1 : ¬ N = i := by omega
  have n2 : i ≤ N := by omega
  have n3 : k ≤ N := by omega
  obtain ⟨X, hX⟩ : ∃ X, (if N = p then some (⟨S, 0, none⟩ : Addr) else some ⟨S, p, none⟩) = X := ⟨_, rfl⟩
  have hAA := (h.row (by omega)).1
  subst hAA
  have HB := Lib.hid h
  have HQ : Hid (q = i + k) := Lib.hid (by omega)
  clear h hM1 hM2 hM3 hs hp hz3
  go_enter Try.func34, Try.ntmps34
  go_wp2_with fail
  refine HS.out.mono ?_
  rintro r w1 ⟨rfl, hb1, hf1⟩
  obtain ⟨_, vals, hrow, hlay⟩ := hb1.row (by omega)
  have HLAY := Lib.hid hlay
  have HROW := Lib.hid hrow
  have HB1 := Lib.hid hb1
  have HF1 := Lib.hid hf1
  clear c1
  have c0 := hb1.c0
  have c1 := hb1.c1
  have c2 := hb1.c2
  clear hb1 hf1 hM ht hrow hlay
  go_wp2_with fail
  go_quiet (fail)
  go_wp2_with fail
  obtain ⟨W1, HB2, HROW2, HF2, hW⟩ : ∃ W1, Hid (Buf 9 53 W1 b (some ⟨S, 0, none⟩) S N to p n xs) ∧ Hid (W1.heap[S]? = some (.cells vals.toArray 9 (0, 0))) ∧ Hid (Fr w W1 b S) ∧ W1 = w1.drewN nq := ⟨_, HB1.out.drewN nq, HROW.out, HF1.out.drewN nq, rfl⟩
  rw [← hW]
  clear hW c0 c1 c2 HB1 HROW HF1
  have c0 := HB2.out.c0
  have c1 := HB2.out.c1
  go_still_tail 10, (by kernel_rfl)
  change wpList _ _ _ _ _ W1.drew
  refine wp_clear rfl (.tmp 43) 44 rfl 9 Try.underlying44 (.string ByteArray.empty) Try.zeroValue9 rfl rfl _ _ _ rfl S i vals 9 HROW2.out ?_ ?_ ?_
  · intro h0
    rfl
  · have hl := HLAY.out.len
    omega
  intro W2 HR3 HF3
  have HB3 := Lib.hid (((HF3.out S).block b (lt_of_block HB2.out.box) (HB2.out.ne (by omega)) (HB2.out.ne (by omega))).trans HB2.out.box)
  go_wp2_with fail
  clear c0 c1
  have c0 : W2.cell? ⟨b, 0, none⟩ = some (.slice (some ⟨S, 0, none⟩) N N) := by rw [cell_of_row W2 b 0 _ 53 (0, 0) HB3.out]; rfl
  have c2 : W2.cell? ⟨b, 2, none⟩ = some (.int .i64 ((p : Nat) : Int)) := by rw [cell_of_row W2 b 2 _ 53 (0, 0) HB3.out]; rfl
  go_still_tail 10, (by kernel_rfl)
  change wpList _ _ _ _ _ W2.drew
  refine wp_clear rfl (.tmp 53) 44 rfl 9 Try.underlying44 (.string ByteArray.empty) Try.zeroValue9 rfl rfl _ _ _ rfl S p _ 9 HR3.out ?_ ?_ ?_
  · intro h0
    rw [← hX, if_neg (by omega)]
  · have hl := HLAY.out.len
    rw [length_splice _ _ _ (by simp; omega)]
    omega
  intro W3 HR4 HF4
  have HB4 := Lib.hid (((HF4.out S).block b (lt_of_block HB3.out) (HB2.out.ne (by omega)) (HB2.out.ne (by omega))).trans HB3.out)
  have HF5 : Hid (Fr w W3 b S) := Lib.hid (HF2.out.trans (((Fr.refl W1 b S).drewN 1).trans ((HF3.out b).trans (((Fr.refl W2 b S).drewN 1).trans (HF4.out b)))))
  clear c0 c2
  have c0 : W3.cell? ⟨b, 0, none⟩ = some (.slice (some ⟨S, 0, none⟩) N N) := by rw [cell_of_row W3 b 0 _ 53 (0, 0) HB4.out]; rfl
  have c1 : W3.cell? ⟨b, 1, none⟩ = some (.int .i64 ((to : Nat) : Int)) := by rw [cell_of_row W3 b 1 _ 53 (0, 0) HB4.out]; rfl
  have c2 : W3.cell? ⟨b, 2, none⟩ = some (.int .i64 ((p : Nat) : Int)) := by rw [cell_of_row W3 b 2 _ 53 (0, 0) HB4.out]; rfl
  have f1 : W3.frozen? ⟨b, 1, none⟩ = false := by simp [World.frozen?, HB4.out]
  have f2 : W3.frozen? ⟨b, 2, none⟩ = false := by simp [World.frozen?, HB4.out]
  go_wp2_with fail
  go_end0
  have e1 := HZ.out
  have e2 := HP.out
  have L := HLAY.out.cut i k (.string ByteArray.empty) ht1 (by omega) hn HB2.out.len
  rw [show to + (p - to) = p from by omega, show i + k - to = z - p from by omega, show p - to = e - g from by omega] at L
  refine ⟨rfl, ⟨z, HB.out.cut i k z hn (by omega) rfl (set3_2 (set3_1 HB4.out)) ((Below.heap_setCell _ _ _ S (Ne.symm (HB.out.ne (by omega)))).trans ((Below.heap_setCell _ _ _ S (Ne.symm (HB.out.ne (by omega)))).trans HR4.out)) L⟩, (HF5.out.setCell (.inl rfl) _).setCell (.inl rfl) _⟩
end Go.Proofs.Ytecoobeddjfegaa
