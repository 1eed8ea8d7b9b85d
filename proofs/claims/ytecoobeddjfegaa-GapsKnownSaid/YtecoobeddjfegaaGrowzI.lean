/- The walk of grow at a buffer without memory. -/
import Derived.Test.YtecoobeddjfegaaGrowI
namespace Go.Proofs.Ytecoobeddjfegaa
open Go.RowKit

set_option maxHeartbeats 1000000 in
theorem igrow_zero {w : World} {b S g e n : Nat} {A : Option Addr} {xs : List Value} (h : Buf 3 39 w b A S 0 g e n xs) (k : Nat) (hk : 0 < k) (hn : k ≤ 4096) :
    Calls Try.prog 37 #[.pointer (some ⟨b, 0, none⟩), .int .i64 k] w fun q w' => q = .returned (.tuple #[]) ∧ (∃ M f, Buf 3 39 w' b (some ⟨w.heap.size, 0, none⟩) w.heap.size M g f n xs ∧ g + k ≤ f) ∧ Fr w w' b S := by
  have h1 := h.ge
  have h2 := h.eN
  have s2 := h.s2
  have h0 := h.zero rfl
  obtain rfl : e = 0 := by omega
  obtain rfl : g = 0 := by omega
  obtain rfl : n = 0 := by omega
  subst h0
  obtain rfl : xs = [] := List.eq_nil_of_length_eq_zero h.len
  obtain ⟨d, hd, hd1⟩ : ∃ d : Nat, (2 : Int) * (k : Int) = (d : Int) ∧ d = 2 * k := ⟨2 * k, by omega, rfl⟩
  obtain ⟨M, hM, hM1⟩ : ∃ M : Nat, (if (4096 : Int) < (d : Int) then (4096 : Int) else (d : Int)) = (M : Int) ∧ M = min d 4096 := ⟨min d 4096, by split <;> omega, rfl⟩
  have m1 : M ≤ 4096 := by omega
  have m2 : k ≤ M := by omega
  have m7 : ¬ M = 0 := by omega
  have d1 : decide ((k : Int) ≤ 0) = false := by simp; omega
  have HR : Hid (Calls Try.prog 27 #[.pointer (some ⟨b, 0, none⟩)] w fun r w' => r = .returned (.int .i64 0) ∧ ∃ k, w' = w.drewN k) := Lib.hid (iroom_any h)
  have HL : Hid (∀ m, Calls Try.prog 11 #[.pointer (some ⟨b, 0, none⟩)] (w.drewN m) fun r w' => r = .returned (.int .i64 0) ∧ ∃ k, w' = (w.drewN m).drewN k) := Lib.hid (fun m => ilen_any (h.drewN m))
  have hmk := imake_row (M : Int) M rfl (by omega)
  have HB := Lib.hid h
  clear h h1 h2 s2 hd1 hM1
  go_enter Try.func37, Try.ntmps37
  go_wp2_with fail
  refine HR.out.mono ?_
  rintro r w' ⟨rfl, j, rfl⟩
  go_wp2_with fail
  refine (HL.out j).mono ?_
  rintro r w' ⟨rfl, j2, rfl⟩
  go_wp2_with fail
  have lb : b < w.heap.size := lt_of_block HB.out.box
  obtain ⟨H, hH⟩ : ∃ H, H = w.heap.size := ⟨_, rfl⟩
  obtain ⟨W1, HBX, HNW, HF1, hW⟩ : ∃ W1 : World, Hid (W1.heap[b]? = some (.cells #[.slice none 0 0, .int .i64 0, .int .i64 0] 39 (0, 0))) ∧
      Hid (W1.heap[H]? = some (.cells (List.replicate M (.int .i64 0)).toArray 3 (0, 0))) ∧ Hid (Fr w W1 b S) ∧ W1 = (w.drewN (j + j2)).alloc (.cells (Array.replicate M (.int .i64 0)) 3) :=
    ⟨_, (Below.heap_alloc (w.drewN (j + j2)) _ b lb).trans HB.out.box, Lib.hid (by rw [hH, List.toArray_replicate]; exact heap_alloc_new (w.drewN (j + j2)) (.cells (Array.replicate M (.int .i64 0)) 3)), ((Fr.refl w b S).drewN _).alloc _, rfl⟩
  rw [← hW]
  rw [← hH] at lb
  have hne : b ≠ H := by omega
  have HH := Lib.hid hH
  have HBH : Hid (b ≠ H) := Lib.hid hne
  simp only [← hH]
  clear hW hH hne lb HR HL hmk
  have c0 : W1.cell? ⟨b, 0, none⟩ = some (.slice none 0 0) := by rw [cell_of_row W1 b 0 _ 39 (0, 0) HBX.out]; rfl
  have c1 : W1.cell? ⟨b, 1, none⟩ = some (.int .i64 0) := by rw [cell_of_row W1 b 1 _ 39 (0, 0) HBX.out]; rfl
  have c2 : W1.cell? ⟨b, 2, none⟩ = some (.int .i64 0) := by rw [cell_of_row W1 b 2 _ 39 (0, 0) HBX.out]; rfl
  go_quiet (fail)
  go_wp2_with fail
  obtain ⟨W2, HBX2, HNW2, HF2, hW⟩ : ∃ W2 : World, Hid (W2.heap[b]? = some (.cells #[.slice none 0 0, .int .i64 0, .int .i64 0] 39 (0, 0))) ∧
      Hid (W2.heap[H]? = some (.cells (List.replicate M (.int .i64 0)).toArray 3 (0, 0))) ∧ Hid (Fr w W2 b S) ∧ W2 = W1.drewN nq :=
    ⟨W1.drewN nq, HBX.out, HNW.out, HF1.out.drewN nq, rfl⟩
  rw [← hW]
  clear hW c0 c1 c2 HBX HNW HF1
  have c0 : W2.cell? ⟨b, 0, none⟩ = some (.slice none 0 0) := by rw [cell_of_row W2 b 0 _ 39 (0, 0) HBX2.out]; rfl
  have c1 : W2.cell? ⟨b, 1, none⟩ = some (.int .i64 0) := by rw [cell_of_row W2 b 1 _ 39 (0, 0) HBX2.out]; rfl
  have c2 : W2.cell? ⟨b, 2, none⟩ = some (.int .i64 0) := by rw [cell_of_row W2 b 2 _ 39 (0, 0) HBX2.out]; rfl
  have f0 : W2.frozen? ⟨b, 0, none⟩ = false := by simp [World.frozen?, HBX2.out]
  have f2 : W2.frozen? ⟨b, 2, none⟩ = false := by simp [World.frozen?, HBX2.out]
  go_still_tail 10, (by kernel_rfl)
  change wpList _ _ _ _ _ W2.drew
  refine wpList_copy_nothing rfl (.tmp 30) (.tmp 39) 22 22 rfl 3 Try.underlying22 Try.one3 _ _ _ _ _ _ rfl rfl ?_ ?_
  · exact Nat.min_eq_left (Nat.zero_le _)
  obtain ⟨W3, HBX3, HNW3, HF3, hW⟩ : ∃ W3 : World, Hid (W3.heap[b]? = some (.cells #[.slice none 0 0, .int .i64 0, .int .i64 0] 39 (0, 0))) ∧
      Hid (W3.heap[H]? = some (.cells (List.replicate M (.int .i64 0)).toArray 3 (0, 0))) ∧ Hid (Fr w W3 b S) ∧ W3 = W2.drew :=
    ⟨W2.drew, HBX2.out, HNW2.out, HF2.out.drewN 1, rfl⟩
  rw [← hW]
  clear hW c0 c1 c2 f0 f2 HBX2 HNW2 HF2
  have c0 : W3.cell? ⟨b, 0, none⟩ = some (.slice none 0 0) := by rw [cell_of_row W3 b 0 _ 39 (0, 0) HBX3.out]; rfl
  have c1 : W3.cell? ⟨b, 1, none⟩ = some (.int .i64 0) := by rw [cell_of_row W3 b 1 _ 39 (0, 0) HBX3.out]; rfl
  have c2 : W3.cell? ⟨b, 2, none⟩ = some (.int .i64 0) := by rw [cell_of_row W3 b 2 _ 39 (0, 0) HBX3.out]; rfl
  have f0 : W3.frozen? ⟨b, 0, none⟩ = false := by simp [World.frozen?, HBX3.out]
  have f2 : W3.frozen? ⟨b, 2, none⟩ = false := by simp [World.frozen?, HBX3.out]
  go_wp2_with fail
  go_still_tail 12, (by kernel_rfl)
  change wpList _ _ _ _ _ W3.drew
  refine wpList_copy_nothing rfl (.tmp 43) (.tmp 52) 22 22 rfl 3 Try.underlying22 Try.one3 _ _ _ _ _ _ rfl rfl ?_ ?_
  · exact Nat.min_eq_left (Nat.zero_le _)
  go_wp2_with fail
  go_end0
  rw [← HH.out]
  have L : Lay (List.replicate M (.int .i64 0)) M 0 (M - 0) 0 [] := ⟨by simp, by omega, by omega, fun i hi => by omega, fun i _ hi => by omega⟩
  refine ⟨rfl, ⟨M, M, HB.out.grew M M H (by omega) (by omega) m1 (by omega) HBH.out (set3_2 (set3_0 HBX3.out)) ((Below.heap_setCell _ _ _ H (Ne.symm HBH.out)).trans ((Below.heap_setCell _ _ _ H (Ne.symm HBH.out)).trans HNW3.out)) L, by omega⟩, ((HF3.out.drewN 1).setCell (.inl rfl) _).setCell (.inl rfl) _⟩
theorem igrow_any {w : World} {b S N g e n : Nat} {A : Option Addr} {xs : List Value} (h : Buf 3 39 w b A S N g e n xs) (k : Nat) (hk : 0 < k) (hn : n + k ≤ 4096) :
    Calls Try.prog 37 #[.pointer (some ⟨b, 0, none⟩), .int .i64 k] w fun q w' => q = .returned (.tuple #[]) ∧ (∃ A' S' M f, Buf 3 39 w' b A' S' M g f n xs ∧ g + k ≤ f ∧ (S' = S ∨ w.heap.size ≤ S')) ∧ Fr w w' b S := by
  have h1 := h.ge
  by_cases h2 : k ≤ e - g
  · refine (igrow_none h k h2).mono ?_
    rintro q w' ⟨rfl, m, rfl⟩
    exact ⟨rfl, ⟨A, S, N, e, h.drewN m, by omega, .inl rfl⟩, (Fr.refl w b S).drewN m⟩
  · rcases Nat.eq_zero_or_pos N with h0 | h0
    · subst h0
      refine (igrow_zero h k hk (by omega)).mono ?_
      rintro q w' ⟨rfl, ⟨M, f, hb, hf⟩, hfr⟩
      exact ⟨rfl, ⟨_, _, M, f, hb, hf, .inr (Nat.le_refl _)⟩, hfr⟩
    · refine (igrow_more h k (by omega) hn h0).mono ?_
      rintro q w' ⟨rfl, ⟨M, f, hb, hf⟩, hfr⟩
      exact ⟨rfl, ⟨_, _, M, f, hb, hf, .inr (Nat.le_refl _)⟩, hfr⟩
end Go.Proofs.Ytecoobeddjfegaa
