/- The walk of shift. -/
import Derived.Test.YtecoobeddjfegaaShiftS
namespace Go.Proofs.Ytecoobeddjfegaa
open Go.RowKit

theorem Try.one9 : (Try.prog.info? 9).map (·.size) = some 1 := by kernel_rfl
set_option maxHeartbeats 1000000 in
theorem sshift_left {w : World} {b S N g e n : Nat} {A : Option Addr} {xs : List Value} (h : Buf 9 53 w b A S N g e n xs) (to p : Nat) (ht : to < g) (hr : p = to + (e - g)) :
    Calls Try.prog 41 #[.pointer (some ⟨b, 0, none⟩), .int .i64 to] w fun q w' => q = .returned (.tuple #[]) ∧ Buf 9 53 w' b A S N to p n xs ∧ Fr w w' b S := by
  have c0 := h.c0
  have c1 := h.c1
  have c2 := h.c2
  have f1 := h.fz 1
  have f2 := h.fz 2
  have h1 := h.ge
  have h2 := h.eN
  have h3 := h.max
  have h4 := h.gn
  obtain ⟨rfl, vals, hrow, hlay⟩ := h.row (by omega)
  have HB := Lib.hid h
  have HROW := Lib.hid hrow
  have HLAY := Lib.hid hlay
  have HRR := Lib.hid hr
  have r1 : p ≤ e := by omega
  have r3 : to ≤ g := by omega
  have r4 : g ≤ N := by omega
  have r7 : to ≤ p := by omega
  have r5 : ¬ N = p := by omega
  have r6 : ¬ N = to := by omega
  have r2 : p ≤ N := by omega
  clear h hrow hlay hr
  go_enter Try.func41, Try.ntmps41
  go_wp2_with fail
  go_quiet (fail)
  go_wp2_with fail
  refine (sroom_any (HB.out.drewN _)).mono ?_
  rintro q w' ⟨rfl, k, rfl⟩
  go_wp2_with fail
  obtain ⟨W, hW, hbox, hrow, hfr⟩ : ∃ W, W = ((w.drewN (nq + k)).setCell ⟨b, 1, none⟩ (.int .i64 to)).setCell ⟨b, 2, none⟩ (.int .i64 ((to : Int) + ((e : Int) - g))) ∧
      W.heap[b]? = some (.cells #[.slice (some ⟨S, 0, none⟩) N N, .int .i64 to, .int .i64 ((p : Nat) : Int)] 53 (0, 0)) ∧ W.heap[S]? = some (.cells vals.toArray 9 (0, 0)) ∧ Fr w W b S :=
    ⟨_, rfl, by rw [show ((p : Nat) : Int) = (to : Int) + ((e : Int) - g) from by have := HRR.out; omega]; exact set3_2 (set3_1 (HB.out.drewN (nq + k)).box), (Below.heap_setCell _ _ _ S (Ne.symm (HB.out.ne (by omega)))).trans ((Below.heap_setCell _ _ _ S (Ne.symm (HB.out.ne (by omega)))).trans HROW.out), (((Fr.refl w b S).drewN _).setCell (.inl rfl) _).setCell (.inl rfl) _⟩
  rw [← hW]
  clear hW c0 c1 c2 f1 f2
  have k0 : W.cell? ⟨b, 0, none⟩ = some (.slice (some ⟨S, 0, none⟩) N N) := by rw [cell_of_row W b 0 _ 53 (0, 0) hbox]; rfl
  have k2 : W.cell? ⟨b, 2, none⟩ = some (.int .i64 ((p : Nat) : Int)) := by rw [cell_of_row W b 2 _ 53 (0, 0) hbox]; rfl
  have HBOX := Lib.hid hbox
  have HROW2 := Lib.hid hrow
  have HFR := Lib.hid hfr
  clear hbox hrow hfr HROW
  go_still_tail 17, (by kernel_rfl)
  change wpList _ _ _ _ _ W.drew
  obtain ⟨cs, hcs⟩ : ∃ cs, cs = (vals.drop to).take (g - to) := ⟨_, rfl⟩
  have HCS := Lib.hid hcs
  have hl := HLAY.out.len
  have hcl : cs.length = g - to := by rw [hcs]; simp; omega
  have hrr := HRR.out
  refine wp_copy rfl (.tmp 37) (.tmp 44) 44 44 rfl 9 Try.underlying44 Try.one9 _ _ _ _ _ _ rfl rfl S p vals 9 HROW2.out cs ?_ ?_ ?_ ?_ ?_
  · show _ = min _ _
    omega
  · intro h0
    exact ⟨rfl, _, rfl, by rw [hcs]; exact row_part HROW2.out to (g - to)⟩
  · omega
  · rw [hcs]
    exact HLAY.out.part_one HB.out.one to (g - to) (by omega)
  have HCL := Lib.hid hcl
  clear hrr hcs hl hcl
  intro W2 HR3 HF3
  have HBOX2 := Lib.hid (((HF3.out S).block b (lt_of_block HBOX.out) (HB.out.ne (by omega)) (HB.out.ne (by omega))).trans HBOX.out)
  go_wp2_with fail
  obtain ⟨m, hm, hm1, hm2, hm3⟩ : ∃ m : Nat, (if p < g then (p : Int) else (g : Int)) = (m : Int) ∧ m ≤ p ∧ m ≤ g ∧ to ≤ m := ⟨min p g, by split <;> omega, by omega, by omega, by omega⟩
  have m4 : m ≤ N := by omega
  have k0 : W2.cell? ⟨b, 0, none⟩ = some (.slice (some ⟨S, 0, none⟩) N N) := by rw [cell_of_row W2 b 0 _ 53 (0, 0) HBOX2.out]; rfl
  have k2 : W2.cell? ⟨b, 2, none⟩ = some (.int .i64 ((p : Nat) : Int)) := by rw [cell_of_row W2 b 2 _ 53 (0, 0) HBOX2.out]; rfl
  go_still_tail 12, (by kernel_rfl)
  change wpList _ _ _ _ _ W2.drew
  refine wp_clear rfl (.tmp 57) 44 rfl 9 Try.underlying44 (.string ByteArray.empty) Try.zeroValue9 rfl rfl _ _ _ rfl S to _ 9 HR3.out ?_ ?_ ?_
  · intro h0
    rfl
  · have hl := HLAY.out.len
    have hc := HCL.out
    have hrr := HRR.out
    rw [length_splice _ _ _ (by omega)]
    omega
  intro W3 HR4 HF4
  have HE : Hid (Buf 9 53 W3 b (some ⟨S, 0, none⟩) S N to p n xs ∧ Fr w W3 b S) := Lib.hid ⟨by
    have hrr := HRR.out
    have L := HLAY.out.left to (m - to) (.string ByteArray.empty) (by omega) (by omega)
    rw [← HCS.out, ← HRR.out] at L
    exact HB.out.shifted to p HRR.out (by omega) rfl (((HF4.out S).block b (lt_of_block HBOX2.out) (HB.out.ne (by omega)) (HB.out.ne (by omega))).trans HBOX2.out) HR4.out L,
    HFR.out.trans (((Fr.refl W b S).drewN 1).trans ((HF3.out b).trans (((Fr.refl W2 b S).drewN 1).trans (HF4.out b))))⟩
  go_wp2_with fail
  refine bodyPost_ret (results_none rfl _ _ _) rfl ?_
  exact ⟨rfl, HE.out.1, HE.out.2⟩
set_option maxHeartbeats 1000000 in
theorem sshift_right {w : World} {b S N g e n : Nat} {A : Option Addr} {xs : List Value} (h : Buf 9 53 w b A S N g e n xs) (to p : Nat) (ht : g ≤ to) (hn : to ≤ n) (hN : 0 < N) (hr : p = to + (e - g)) :
    Calls Try.prog 41 #[.pointer (some ⟨b, 0, none⟩), .int .i64 to] w fun q w' => q = .returned (.tuple #[]) ∧ Buf 9 53 w' b A S N to p n xs ∧ Fr w w' b S := by
  have c0 := h.c0
  have c1 := h.c1
  have c2 := h.c2
  have f1 := h.fz 1
  have f2 := h.fz 2
  have h1 := h.ge
  have h2 := h.eN
  have h3 := h.max
  have h4 := h.gn
  obtain ⟨rfl, vals, hrow, hlay⟩ := h.row (by omega)
  have HB := Lib.hid h
  have HROW := Lib.hid hrow
  have HLAY := Lib.hid hlay
  have HRR := Lib.hid hr
  have s1 := h.s1
  have r2 : p ≤ N := by have := h.s2; omega
  have s2 := h.s2
  have r1 : e ≤ p := by omega
  have r4 : to ≤ N := by omega
  have r7 : to ≤ p := by omega
  have r8 : decide (to < g) = false := by simp; omega
  have r9 : p ≤ 4096 := by omega
  obtain ⟨X1, hX1⟩ : ∃ X1, (if N = g then some (⟨S, 0, none⟩ : Addr) else some ⟨S, g, none⟩) = X1 := ⟨_, rfl⟩
  obtain ⟨X2, hX2⟩ : ∃ X2, (if N = e then some (⟨S, 0, none⟩ : Addr) else some ⟨S, e, none⟩) = X2 := ⟨_, rfl⟩
  clear h hrow hlay hr
  go_enter Try.func41, Try.ntmps41
  go_wp2_with fail
  go_quiet (fail)
  go_wp2_with fail
  refine (sroom_any (HB.out.drewN _)).mono ?_
  rintro q w' ⟨rfl, k, rfl⟩
  go_wp2_with fail
  obtain ⟨W, hW, hbox, hrow, hfr⟩ : ∃ W, W = ((w.drewN (nq + k)).setCell ⟨b, 1, none⟩ (.int .i64 to)).setCell ⟨b, 2, none⟩ (.int .i64 ((to : Int) + ((e : Int) - g))) ∧
      W.heap[b]? = some (.cells #[.slice (some ⟨S, 0, none⟩) N N, .int .i64 to, .int .i64 ((p : Nat) : Int)] 53 (0, 0)) ∧ W.heap[S]? = some (.cells vals.toArray 9 (0, 0)) ∧ Fr w W b S :=
    ⟨_, rfl, by rw [show ((p : Nat) : Int) = (to : Int) + ((e : Int) - g) from by have := HRR.out; omega]; exact set3_2 (set3_1 (HB.out.drewN (nq + k)).box), (Below.heap_setCell _ _ _ S (Ne.symm (HB.out.ne (by omega)))).trans ((Below.heap_setCell _ _ _ S (Ne.symm (HB.out.ne (by omega)))).trans HROW.out), (((Fr.refl w b S).drewN _).setCell (.inl rfl) _).setCell (.inl rfl) _⟩
  rw [← hW]
  clear hW c0 c1 c2 f1 f2
  have k0 : W.cell? ⟨b, 0, none⟩ = some (.slice (some ⟨S, 0, none⟩) N N) := by rw [cell_of_row W b 0 _ 53 (0, 0) hbox]; rfl
  have k2 : W.cell? ⟨b, 2, none⟩ = some (.int .i64 ((p : Nat) : Int)) := by rw [cell_of_row W b 2 _ 53 (0, 0) hbox]; rfl
  have HBOX := Lib.hid hbox
  have HROW2 := Lib.hid hrow
  have HFR := Lib.hid hfr
  clear hbox hrow hfr HROW
  go_still_tail 17, (by kernel_rfl)
  change wpList _ _ _ _ _ W.drew
  obtain ⟨cs, hcs⟩ : ∃ cs, cs = (vals.drop e).take (to - g) := ⟨_, rfl⟩
  have HCS := Lib.hid hcs
  have hl := HLAY.out.len
  have hcl : cs.length = to - g := by rw [hcs]; simp; omega
  have hrr := HRR.out
  refine wp_copy rfl (.tmp 64) (.tmp 74) 44 44 rfl 9 Try.underlying44 Try.one9 _ _ _ _ _ _ rfl rfl S g vals 9 HROW2.out cs ?_ ?_ ?_ ?_ ?_
  · show _ = min _ _
    omega
  · intro h0
    exact ⟨by rw [← hX1, if_neg (by omega)], ⟨S, e, none⟩, by rw [← hX2, if_neg (by omega)], by rw [hcs]; exact row_part HROW2.out e (to - g)⟩
  · omega
  · rw [hcs]
    exact HLAY.out.part_one2 HB.out.one e (to - g) (by omega) (by omega)
  have HCL := Lib.hid hcl
  clear hrr hcs hl hcl
  intro W2 HR3 HF3
  have HBOX2 := Lib.hid (((HF3.out S).block b (lt_of_block HBOX.out) (HB.out.ne (by omega)) (HB.out.ne (by omega))).trans HBOX.out)
  go_wp2_with fail
  obtain ⟨m, hm, hm1, hm2, hm3⟩ : ∃ m : Nat, (if e < to then (to : Int) else (e : Int)) = (m : Int) ∧ m ≤ p ∧ e ≤ m ∧ to ≤ m := ⟨max e to, by split <;> omega, by omega, by omega, by omega⟩
  obtain ⟨X3, hX3⟩ : ∃ X3, (if N = m then some (⟨S, 0, none⟩ : Addr) else some ⟨S, m, none⟩) = X3 := ⟨_, rfl⟩
  have m4 : m ≤ N := by omega
  have k0 : W2.cell? ⟨b, 0, none⟩ = some (.slice (some ⟨S, 0, none⟩) N N) := by rw [cell_of_row W2 b 0 _ 53 (0, 0) HBOX2.out]; rfl
  have k2 : W2.cell? ⟨b, 2, none⟩ = some (.int .i64 ((p : Nat) : Int)) := by rw [cell_of_row W2 b 2 _ 53 (0, 0) HBOX2.out]; rfl
  go_still_tail 12, (by kernel_rfl)
  change wpList _ _ _ _ _ W2.drew
  refine wp_clear rfl (.tmp 87) 44 rfl 9 Try.underlying44 (.string ByteArray.empty) Try.zeroValue9 rfl rfl _ _ _ rfl S m _ 9 HR3.out ?_ ?_ ?_
  · intro h0
    rw [← hX3, if_neg (by omega)]
  · have hl := HLAY.out.len
    have hc := HCL.out
    have hrr := HRR.out
    rw [length_splice _ _ _ (by omega)]
    omega
  intro W3 HR4 HF4
  have HE : Hid (Buf 9 53 W3 b (some ⟨S, 0, none⟩) S N to p n xs ∧ Fr w W3 b S) := Lib.hid ⟨by
    have hrr := HRR.out
    have L := HLAY.out.right to m (p - m) (.string ByteArray.empty) (by omega) (by omega) (by omega) (by omega)
    rw [show g + (e - g) = e from by omega, ← HCS.out] at L
    exact HB.out.shifted to p HRR.out (by omega) rfl (((HF4.out S).block b (lt_of_block HBOX2.out) (HB.out.ne (by omega)) (HB.out.ne (by omega))).trans HBOX2.out) HR4.out L,
    HFR.out.trans (((Fr.refl W b S).drewN 1).trans ((HF3.out b).trans (((Fr.refl W2 b S).drewN 1).trans (HF4.out b))))⟩
  go_wp2_with fail
  go_end0
  exact ⟨rfl, HE.out.1, HE.out.2⟩
end Go.Proofs.Ytecoobeddjfegaa
