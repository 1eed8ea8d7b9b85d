/- The walk of grow. -/
import Derived.Test.YtecoobeddjfegaaTakebS
namespace Go.Proofs.Ytecoobeddjfegaa
open Go.RowKit

theorem Try.inf9 : (Try.prog.info? 9).map (fun i => (i.zero, i.size, i.bytes)) = some (some (.string ByteArray.empty), 1, 16) := by kernel_rfl
theorem smake_row (x : Int) (n : Nat) (e : x = n) (h : n ≤ 100000) (w : World) :
    (Instr.makeSlice 44 (.int .i64 x) (.int .i64 x)).run Try.prog w = .ok (.slice (some ⟨w.heap.size, 0, none⟩) n n) (w.alloc (.cells (List.replicate n (.string ByteArray.empty)).toArray 9)) := by
  subst e
  rw [← madeCells_one]
  exact run_make_row' 44 9 (.string ByteArray.empty) 16 Try.underlying44 Try.inf9 rfl .i64 .i64 n (by omega) (by omega) w
theorem sgrow_none {w : World} {b S N g e n : Nat} {A : Option Addr} {xs : List Value} (h : Buf 9 53 w b A S N g e n xs) (k : Nat) (hk : k ≤ e - g) :
    Calls Try.prog 40 #[.pointer (some ⟨b, 0, none⟩), .int .i64 k] w fun q w' => q = .returned (.tuple #[]) ∧ ∃ m, w' = w.drewN m := by
  have HR := Lib.hid (sroom_any h)
  have h1 := h.ge
  have d1 : (k : Int) ≤ (e : Int) - g := by omega
  clear h
  go_enter Try.func40, Try.ntmps40
  go_wp2_with fail
  refine HR.out.mono ?_
  rintro q w' ⟨rfl, m, rfl⟩
  go_wp2_with fail
  refine bodyPost_ret (results_none rfl _ _ _) rfl ?_
  exact ⟨rfl, m, rfl⟩
set_option maxHeartbeats 1000000 in
theorem sgrow_more {w : World} {b S N g e n : Nat} {A : Option Addr} {xs : List Value} (h : Buf 9 53 w b A S N g e n xs) (k : Nat) (hk : e - g < k) (hn : n + k ≤ 4096) (hN : 0 < N) :
    Calls Try.prog 40 #[.pointer (some ⟨b, 0, none⟩), .int .i64 k] w fun q w' => q = .returned (.tuple #[]) ∧ (∃ M f, Buf 9 53 w' b (some ⟨w.heap.size, 0, none⟩) w.heap.size M g f n xs ∧ g + k ≤ f) ∧ Fr w w' b S := by
  have h1 := h.ge
  have h2 := h.eN
  have h3 := h.max
  have h4 := h.gn
  have s1 := h.s1
  have s2 := h.s2
  obtain ⟨rfl, vals, hrow, hlay⟩ := h.row hN
  obtain ⟨q, hq, hq1⟩ : ∃ q : Nat, (n : Int) + k = (q : Int) ∧ q = n + k := ⟨n + k, by omega, rfl⟩
  obtain ⟨d, hd, hd1⟩ : ∃ d : Nat, (2 : Int) * (q : Int) = (d : Int) ∧ d = 2 * q := ⟨2 * q, by omega, rfl⟩
  obtain ⟨M, hM, hM1⟩ : ∃ M : Nat, (if (4096 : Int) < (d : Int) then (4096 : Int) else (d : Int)) = (M : Int) ∧ M = min d 4096 := ⟨min d 4096, by split <;> omega, rfl⟩
  obtain ⟨f, hf, hf1⟩ : ∃ f : Nat, (M : Int) - ((N : Int) - (e : Int)) = (f : Int) ∧ f = M - (N - e) := ⟨M - (N - e), by omega, rfl⟩
  have m1 : M ≤ 4096 := by omega
  have m2 : n + k ≤ M := by omega
  have m3 : f ≤ M := by omega
  have m4 : g ≤ N := by omega
  have m5 : q ≤ 4096 := by omega
  have m6 : f + (n - g) = M := by omega
  have m7 : ¬ M = 0 := by omega
  have d1 : decide ((k : Int) ≤ (e : Int) - g) = false := by simp; omega
  have HR := Lib.hid (sroom_any h)
  have HL := Lib.hid (fun m => slen_any (h.drewN m))
  have hmk := smake_row (M : Int) M rfl (by omega)
  have HB := Lib.hid h
  have HROW := Lib.hid hrow
  have HLAY := Lib.hid hlay
  clear h hrow hlay hq1 hd1 hM1 hf1
  go_enter Try.func40, Try.ntmps40
  go_wp2_with fail
  refine HR.out.mono ?_
  rintro r w' ⟨rfl, j, rfl⟩
  go_wp2_with fail
  refine (HL.out j).mono ?_
  rintro r w' ⟨rfl, j2, rfl⟩
  go_wp2_with fail
  have lb : b < w.heap.size := lt_of_block HB.out.box
  have lS : S < w.heap.size := lt_of_block HROW.out
  obtain ⟨H, hH⟩ : ∃ H, H = w.heap.size := ⟨_, rfl⟩
  obtain ⟨W1, HBX, HRW, HNW, HF1, hW⟩ : ∃ W1 : World, Hid (W1.heap[b]? = some (.cells #[.slice (some ⟨S, 0, none⟩) N N, .int .i64 g, .int .i64 e] 53 (0, 0))) ∧ Hid (W1.heap[S]? = some (.cells vals.toArray 9 (0, 0))) ∧
      Hid (W1.heap[H]? = some (.cells (List.replicate M (.string ByteArray.empty)).toArray 9 (0, 0))) ∧ Hid (Fr w W1 b S) ∧ W1 = (w.drewN (j + j2)).alloc (.cells (Array.replicate M (.string ByteArray.empty)) 9) :=
    ⟨_, (Below.heap_alloc (w.drewN (j + j2)) _ b lb).trans HB.out.box, (Below.heap_alloc (w.drewN (j + j2)) _ S lS).trans HROW.out, Lib.hid (by rw [hH, List.toArray_replicate]; exact heap_alloc_new (w.drewN (j + j2)) (.cells (Array.replicate M (.string ByteArray.empty)) 9)), ((Fr.refl w b S).drewN _).alloc _, rfl⟩
  rw [← hW]
  rw [← hH] at lb lS
  have hne : b ≠ H := by omega
  have HH := Lib.hid hH
  have HBH : Hid (b ≠ H ∧ S ≠ H) := Lib.hid ⟨by omega, by omega⟩
  simp only [← hH]
  clear hW hH hne lb lS HROW HR HL hmk
  have c0 : W1.cell? ⟨b, 0, none⟩ = some (.slice (some ⟨S, 0, none⟩) N N) := by rw [cell_of_row W1 b 0 _ 53 (0, 0) HBX.out]; rfl
  have c2 : W1.cell? ⟨b, 2, none⟩ = some (.int .i64 ((e : Nat) : Int)) := by rw [cell_of_row W1 b 2 _ 53 (0, 0) HBX.out]; rfl
  go_quiet (fail)
  go_wp2_with fail
  obtain ⟨W2, HBX2, HRW2, HNW2, HF2, hW⟩ : ∃ W2 : World, Hid (W2.heap[b]? = some (.cells #[.slice (some ⟨S, 0, none⟩) N N, .int .i64 g, .int .i64 e] 53 (0, 0))) ∧ Hid (W2.heap[S]? = some (.cells vals.toArray 9 (0, 0))) ∧
      Hid (W2.heap[H]? = some (.cells (List.replicate M (.string ByteArray.empty)).toArray 9 (0, 0))) ∧ Hid (Fr w W2 b S) ∧ W2 = W1.drewN nq :=
    ⟨W1.drewN nq, HBX.out, HRW.out, HNW.out, HF1.out.drewN nq, rfl⟩
  rw [← hW]
  clear hW c0 c2 HBX HRW HNW HF1
  have c0 : W2.cell? ⟨b, 0, none⟩ = some (.slice (some ⟨S, 0, none⟩) N N) := by rw [cell_of_row W2 b 0 _ 53 (0, 0) HBX2.out]; rfl
  have c1 : W2.cell? ⟨b, 1, none⟩ = some (.int .i64 ((g : Nat) : Int)) := by rw [cell_of_row W2 b 1 _ 53 (0, 0) HBX2.out]; rfl
  go_still_tail 10, (by kernel_rfl)
  change wpList _ _ _ _ _ W2.drew
  have hl := HLAY.out.len
  have hl1 : (vals.take g).length = g := by simp; omega
  have hl2 : (vals.drop e).length = N - e := by simp; omega
  obtain ⟨xa, hxa, hxl⟩ : ∃ xa, xa = vals.take g ∧ xa.length = g := ⟨_, rfl, hl1⟩
  obtain ⟨xb, hxb, hyl⟩ : ∃ xb, xb = vals.drop e ∧ xb.length = N - e := ⟨_, rfl, hl2⟩
  have HXA := Lib.hid hxa
  have HXB := Lib.hid hxb
  have HXL := Lib.hid hxl
  have HYL := Lib.hid hyl
  clear hl hl1 hl2 hxa hxb hxl hyl
  refine wp_copy rfl (.tmp 30) (.tmp 39) 44 44 rfl 9 Try.underlying44 Try.one9 _ _ _ _ _ _ rfl rfl H 0 _ 9 HNW2.out xa ?_ ?_ ?_ ?_ ?_
  · rw [HXL.out]
    show _ = min _ _
    omega
  · intro h0
    exact ⟨rfl, _, rfl, by rw [HXA.out]; exact row_part HRW2.out 0 g⟩
  · rw [HXL.out]
    simp
    omega
  · rw [HXA.out]
    exact HLAY.out.part_one HB.out.one 0 g (by omega)
  intro W3 HR3 HF3
  have HBX3 := Lib.hid (((HF3.out H).block b (lt_of_block HBX2.out) HBH.out.1 HBH.out.1).trans HBX2.out)
  have HRW3 := Lib.hid (((HF3.out H).block S (lt_of_block HRW2.out) HBH.out.2 HBH.out.2).trans HRW2.out)
  have HF4 : Hid (Fr w W3 b S) := Lib.hid (HF2.out.trans2 (((Fr.refl W2 b H).drewN 1).trans (HF3.out b)) (.inr (by rw [HH.out]; exact Nat.le_refl _)))
  go_wp2_with fail
  clear c0 c1
  have c0 : W3.cell? ⟨b, 0, none⟩ = some (.slice (some ⟨S, 0, none⟩) N N) := by rw [cell_of_row W3 b 0 _ 53 (0, 0) HBX3.out]; rfl
  have c2 : W3.cell? ⟨b, 2, none⟩ = some (.int .i64 ((e : Nat) : Int)) := by rw [cell_of_row W3 b 2 _ 53 (0, 0) HBX3.out]; rfl
  obtain ⟨X1, hX1⟩ : ∃ X1, (if M = f then some (⟨H, 0, none⟩ : Addr) else some ⟨H, f, none⟩) = X1 := ⟨_, rfl⟩
  obtain ⟨X2, hX2⟩ : ∃ X2, (if N = e then some (⟨S, 0, none⟩ : Addr) else some ⟨S, e, none⟩) = X2 := ⟨_, rfl⟩
  go_still_tail 12, (by kernel_rfl)
  change wpList _ _ _ _ _ W3.drew
  refine wp_copy rfl (.tmp 43) (.tmp 52) 44 44 rfl 9 Try.underlying44 Try.one9 _ _ _ _ _ _ rfl rfl H f _ 9 HR3.out xb ?_ ?_ ?_ ?_ ?_
  · rw [HYL.out]
    show _ = min _ _
    omega
  · intro h0
    rw [HYL.out] at h0
    exact ⟨by rw [← hX1, if_neg (by omega)], ⟨S, e, none⟩, by rw [← hX2, if_neg (by omega)], by
      rw [HXB.out]
      have := row_part HRW3.out e (N - e)
      rwa [List.take_of_length_le (by rw [← HXB.out, HYL.out]; exact Nat.le_refl _)] at this⟩
  · rw [HYL.out, length_splice _ _ _ (by rw [HXL.out]; simp; omega)]
    simp
    omega
  · have := HLAY.out.part_one2 HB.out.one e (N - e) (by omega) (by omega)
    rw [HXB.out]
    rwa [List.take_of_length_le (by rw [← HXB.out, HYL.out]; exact Nat.le_refl _)] at this
  intro W4 HR5 HF5
  have HBX4 := Lib.hid (((HF5.out H).block b (lt_of_block HBX3.out) HBH.out.1 HBH.out.1).trans HBX3.out)
  have HF6 : Hid (Fr w W4 b S) := Lib.hid (HF4.out.trans2 (((Fr.refl W3 b H).drewN 1).trans (HF5.out b)) (.inr (by rw [HH.out]; exact Nat.le_refl _)))
  clear c0 c2
  have c0 : W4.cell? ⟨b, 0, none⟩ = some (.slice (some ⟨S, 0, none⟩) N N) := by rw [cell_of_row W4 b 0 _ 53 (0, 0) HBX4.out]; rfl
  have c2 : W4.cell? ⟨b, 2, none⟩ = some (.int .i64 ((e : Nat) : Int)) := by rw [cell_of_row W4 b 2 _ 53 (0, 0) HBX4.out]; rfl
  have f0 : W4.frozen? ⟨b, 0, none⟩ = false := by simp [World.frozen?, HBX4.out]
  have f2 : W4.frozen? ⟨b, 2, none⟩ = false := by simp [World.frozen?, HBX4.out]
  go_wp2_with fail
  go_end0
  have L := HLAY.out.grown M (.string ByteArray.empty) (by omega)
  rw [← HXA.out, show g + (e - g) = e from by omega, ← HXB.out, show M - (n - g) = f from by omega] at L
  rw [← HH.out]
  refine ⟨rfl, ⟨M, f, HB.out.grew M f H (by omega) (by omega) m1 m6 HBH.out.1 (set3_2 (set3_0 HBX4.out)) ((Below.heap_setCell _ _ _ H (Ne.symm HBH.out.1)).trans ((Below.heap_setCell _ _ _ H (Ne.symm HBH.out.1)).trans HR5.out)) L, by omega⟩, (HF6.out.setCell (.inl rfl) _).setCell (.inl rfl) _⟩
end Go.Proofs.Ytecoobeddjfegaa
