/- The walk of the law GapsBack. -/
import Derived.Test.YtecoobeddjfegaaNilW
import Derived.Test.YtecoobeddjfegaaIv
namespace Go.Proofs.Ytecoobeddjfegaa
open Go.RowKit

/-- what is put in, and taken out again, leaves the list -/
theorem back1 {xs ys : List Value} {i m : Nat} (hi : i ≤ xs.length) (hm : ys.length = m) : (xs.take i ++ (ys ++ xs.drop i)).take i ++ (xs.take i ++ (ys ++ xs.drop i)).drop (i + m) = xs := by
  have e1 : (xs.take i).length = i := by simp; omega
  rw [List.take_left' e1, ← List.append_assoc, List.drop_left' (by simp; omega), List.take_append_drop]
/-- what is moved, and moved back, leaves the list -/
theorem back2 {xs : List Value} {i k t : Nat} (hik : i + k ≤ xs.length) (ht : t ≤ xs.length - k) : moved (moved xs i k t) t k i = xs := by
  have e0 : ((xs.drop i).take k).length = k := by simp; omega
  have e1 : (xs.take i ++ xs.drop (i + k)).length = xs.length - k := by simp; omega
  have e2 : ((xs.take i ++ xs.drop (i + k)).take t).length = t := by rw [List.length_take, e1]; omega
  have e3 : (xs.take i).length = i := by simp; omega
  have hr : (moved xs i k t).take t ++ (moved xs i k t).drop (t + k) = xs.take i ++ xs.drop (i + k) := back1 (by omega) e0
  have hs : ((moved xs i k t).drop t).take k = (xs.drop i).take k := by
    unfold moved
    rw [List.drop_left' e2, List.take_left' e0]
  show ((moved xs i k t).take t ++ (moved xs i k t).drop (t + k)).take i ++ (((moved xs i k t).drop t).take k ++ ((moved xs i k t).take t ++ (moved xs i k t).drop (t + k)).drop i) = xs
  rw [hr, hs, List.take_left' e3, List.drop_left' e3, show xs.drop (i + k) = (xs.drop i).drop k by rw [List.drop_drop], List.take_append_drop, List.take_append_drop]
set_option maxRecDepth 100000 in
set_option maxHeartbeats 1000000 in
theorem law3_long (hL : LivesOk) (A C : Option Addr) (n c m d : Nat) (z0 z1 z2 : Int) (w : World) (hl : 40 < n ∨ n ≤ 40 ∧ 20 < m) (hl2 : n ≤ 9223372036854775807) (hm : m ≤ 9223372036854775807) :
    Calls Try.prog 3 #[.slice A n c, .slice C m d, .agg #[.int .u8 z0, .int .u8 z1, .int .u8 z2]] w fun e w' => e = .returned (.bool true) ∧ Below w.heap.size w w' := by
  have HL := Lib.hid hL; clear hL
  rcases hl with hl | ⟨hl, hl3⟩
  · go_enter Try.func3, Try.ntmps3
    go_wp2_with fail
    refine (HL.out _).mono ?_
    rintro e w1 ⟨rfl, hb⟩
    go_wp2_with fail
    go_ret
    exact ⟨rfl, ((Below.refl _ _).alloc (Nat.le_refl _) _).trans (hb.mono (by simp))⟩
  · go_enter Try.func3, Try.ntmps3
    go_wp2_with fail
    refine (HL.out _).mono ?_
    rintro e w1 ⟨rfl, hb⟩
    go_wp2_with fail
    go_ret
    exact ⟨rfl, ((Below.refl _ _).alloc (Nat.le_refl _) _).trans (hb.mono (by simp))⟩
set_option maxRecDepth 100000 in
set_option maxHeartbeats 4000000 in
theorem law3_ok (hL : LivesOk) (A C : Option Addr) (n c m d : Nat) (z0 z1 z2 : Nat) (zs ms : List Int) (w : World) (hr : RdV w w.heap.size A (iv zs)) (hr2 : RdV w w.heap.size C (iv ms)) (hn : zs.length = n) (hm : ms.length = m) (hl : n ≤ 40) (hl2 : m ≤ 20) (hz0 : z0 ≤ 255) (hz1 : z1 ≤ 255) (hz2 : z2 ≤ 255) :
    Calls Try.prog 3 #[.slice A n c, .slice C m d, .agg #[.int .u8 z0, .int .u8 z1, .int .u8 z2]] w fun e w' => e = .returned (.bool true) ∧ Below w.heap.size w w' := by
  have HL := Lib.hid hL; clear hL
  have d40 : decide ((40 : Int) < (n : Int)) = false := by simp; omega
  have d20 : decide ((20 : Int) < (m : Int)) = false := by simp; omega
  obtain ⟨W, HW0, HZ, hW⟩ : ∃ W : World, Hid (Below w.heap.size w W) ∧ Hid (W.heap[w.heap.size]? = some (.cells #[.int .u8 z0, .int .u8 z1, .int .u8 z2] 23 (0, 0))) ∧ W = w.alloc (.cells #[.int .u8 z0, .int .u8 z1, .int .u8 z2] 23) :=
    ⟨_, (Below.refl _ _).alloc (Nat.le_refl _) _, heap_alloc_new w _, rfl⟩
  have HR := Lib.hid (hr.next HW0.out)
  have HRA := Lib.hid hr
  have HRC := Lib.hid hr2
  have HNL := Lib.hid hn
  have HML := Lib.hid hm
  have HCC : Hid (∀ a o, C = some ⟨a, o, none⟩ → 0 < m → a < w.heap.size) := Lib.hid (fun a o e h0 => by
    obtain ⟨a', o', e', hl, _⟩ := hr2 0 (by rw [iv_len]; omega)
    rw [e] at e'; injection e' with e'; injection e' with e1 e2; omega)
  obtain ⟨i, hi, hin⟩ : ∃ i : Nat, (z0 : Int) % ((n : Int) + 1) = (i : Int) ∧ i ≤ n := ⟨z0 % (n + 1), by simp [Int.natCast_emod], by have := Nat.mod_lt z0 (show n + 1 > 0 by omega); omega⟩
  obtain ⟨k, hk, hkn⟩ : ∃ k : Nat, (z1 : Int) % ((n : Int) - (i : Int) + 1) = (k : Int) ∧ i + k ≤ n := ⟨z1 % (n - i + 1), by rw [show (n : Int) - i + 1 = ((n - i + 1 : Nat) : Int) by omega]; simp [Int.natCast_emod], by have := Nat.mod_lt z1 (show n - i + 1 > 0 by omega); omega⟩
  obtain ⟨t, ht, htn⟩ : ∃ t : Nat, (z2 : Int) % ((n : Int) - (k : Int) + 1) = (t : Int) ∧ t ≤ n - k := ⟨z2 % (n - k + 1), by rw [show (n : Int) - k + 1 = ((n - k + 1 : Nat) : Int) by omega]; simp [Int.natCast_emod], by have := Nat.mod_lt z2 (show n - k + 1 > 0 by omega); omega⟩
  have q1 : ((n : Int) - (i : Int) + 1 == 0) = false := by simp; omega
  have q2 : ((n : Int) - (k : Int) + 1 == 0) = false := by simp; omega
  have hsz : w.heap.size < W.heap.size := by rw [hW]; simp
  have HN : Hid (Calls Try.prog 8 #[.slice A n c] W fun r w' => (∃ b, r = .returned (.tuple #[.pointer (some ⟨b, 0, none⟩), .int .i64 0]) ∧ Has 3 39 W.heap.size w'.heap.size w' b n (iv zs) n) ∧ Below W.heap.size W w') :=
    Lib.hid (inew_ok (by rw [iv_len]; exact hn) (by omega) HR.out (iv_one zs))
  have HW := Lib.hid hW
  clear hr hr2 hn hm
  go_enter Try.func3, Try.ntmps3
  go_wp2_with fail
  rw [← HW.out]
  refine HN.out.mono ?_
  rintro r w1 ⟨⟨b, rfl, hh⟩, hb⟩
  have HH := Lib.hid hh
  have HB := Lib.hid (HW0.out.trans (hb.mono HW0.out.size))
  have HZ1 := Lib.hid ((hb.block w.heap.size hsz).trans HZ.out)
  clear hh hb HN hW
  have c0 : w1.cell? ⟨w.heap.size, 0, none⟩ = some (.int .u8 z0) := by rw [cell_of_row w1 w.heap.size 0 _ 23 (0, 0) HZ1.out]; rfl
  go_wp2_with fail
  have hU : Hid (∀ a o, C = some ⟨a, o, none⟩ → 0 < m → a < W.heap.size ∨ w1.heap.size ≤ a) := Lib.hid (fun a o e h0 => .inl (by have := HCC.out a o e h0; omega))
  have K2 : Hid (Calls Try.prog 9 #[.pointer (some ⟨b, 0, none⟩), .int .i64 i, .slice C m d] w1 fun r w' => r = .returned (.int .i64 0) ∧ Has 3 39 W.heap.size w'.heap.size w' b (n + m) ((iv zs).take i ++ (iv ms ++ (iv zs).drop i)) (if m = 0 then n else i + m) ∧ Below W.heap.size w1 w') :=
    Lib.hid (iinsert_ok HH.out i hin (by rw [iv_len]; exact HML.out) (by omega) (HRC.out.next HB.out) hU.out (iv_one ms))
  refine K2.out.mono ?_
  rintro r w2 ⟨rfl, hh, hb⟩
  have HH2 := Lib.hid hh
  have HB2 := Lib.hid (HB.out.trans (hb.mono HW0.out.size))
  have HZ2 := Lib.hid ((hb.block w.heap.size hsz).trans HZ1.out)
  clear hh hb K2 hU c0
  have K3 : Hid (Calls Try.prog 10 #[.pointer (some ⟨b, 0, none⟩), .int .i64 i, .int .i64 m] w2 fun r w' => r = .returned (.int .i64 0) ∧ (∃ g U, Has 3 39 W.heap.size U w' b n (iv zs) g) ∧ Below W.heap.size w2 w') := Lib.hid (by
    refine (iremove_ok HH2.out i m (by omega)).mono ?_
    rintro r w' ⟨rfl, hh, hb⟩
    rw [back1 (by rw [iv_len, HNL.out]; exact hin) (by rw [iv_len]; exact HML.out), Nat.add_sub_cancel] at hh
    exact ⟨rfl, ⟨_, _, hh⟩, hb⟩)
  go_wp2_with fail
  refine K3.out.mono ?_
  rintro r w3 ⟨rfl, ⟨g3, U3, hh⟩, hb⟩
  have HH3 := Lib.hid hh
  have HB3 := Lib.hid (HB2.out.trans (hb.mono HW0.out.size))
  have HZ3 := Lib.hid ((hb.block w.heap.size hsz).trans HZ2.out)
  have K4 := Lib.hid (ihlen hh)
  have hzl : Hid ((iv zs).length = n) := Lib.hid (by rw [iv_len]; exact HNL.out)
  clear hh hb K3 HZ1 HZ2 HB2 HB HH HH2
  go_wp2_with fail
  refine K4.out.mono ?_
  rintro r w' ⟨rfl, j, rfl⟩
  have c1 : (w3.drewN j).cell? ⟨w.heap.size, 1, none⟩ = some (.int .u8 z1) := by rw [cell_of_row (w3.drewN j) w.heap.size 1 _ 23 (0, 0) HZ3.out]; rfl
  have c2 : (w3.drewN j).cell? ⟨w.heap.size, 2, none⟩ = some (.int .u8 z2) := by rw [cell_of_row (w3.drewN j) w.heap.size 2 _ 23 (0, 0) HZ3.out]; rfl
  have K5 : Hid (Calls Try.prog 12 #[.pointer (some ⟨b, 0, none⟩), .int .i64 i, .int .i64 k, .int .i64 t] (w3.drewN j) fun r w' => r = .returned (.int .i64 0) ∧ (∃ g U, Has 3 39 W.heap.size U w' b n (moved (iv zs) i k t) g) ∧ Below W.heap.size (w3.drewN j) w') := Lib.hid (by
    refine (imove_ok (HH3.out.drewN j) i k t hkn htn).mono ?_
    rintro r w' ⟨rfl, hh, hb⟩
    exact ⟨rfl, ⟨_, _, hh⟩, hb⟩)
  go_wp2_with fail
  refine K5.out.mono ?_
  rintro r w4 ⟨rfl, ⟨g4, U4, hh⟩, hb⟩
  have HB4 := Lib.hid ((below_drewN HB3.out j).trans (hb.mono HW0.out.size))
  have K6 : Hid (Calls Try.prog 12 #[.pointer (some ⟨b, 0, none⟩), .int .i64 t, .int .i64 k, .int .i64 i] w4 fun r w' => r = .returned (.int .i64 0) ∧ (∃ g U, Has 3 39 W.heap.size U w' b n (iv zs) g) ∧ Below W.heap.size w4 w') := Lib.hid (by
    refine (imove_ok hh t k i (by omega) (by omega)).mono ?_
    rintro r w' ⟨rfl, hh, hb⟩
    rw [back2 (by rw [hzl.out]; exact hkn) (by rw [hzl.out]; exact htn)] at hh
    exact ⟨rfl, ⟨_, _, hh⟩, hb⟩)
  clear hh hb K4 K5 c1 c2 HH3 HB3 HZ3
  go_wp2_with fail
  refine K6.out.mono ?_
  rintro r w5 ⟨rfl, ⟨g5, U5, hh⟩, hb⟩
  have HB5 := Lib.hid (HB4.out.trans (hb.mono HW0.out.size))
  have K7 := Lib.hid (ihlist hh)
  clear hh hb K6 HB4
  go_wp2_with fail
  refine K7.out.mono ?_
  rintro r w6 ⟨G, rfl, hG, hrow, hb⟩
  have HB6 := Lib.hid (HB5.out.trans (hb.mono HB5.out.size))
  have HROW := Lib.hid hrow
  clear hG hrow hb K7 HB5
  go_wp2_with fail
  go_loopw [17] (fun u wr => ∃ q : Nat, u = .int .i64 q ∧ q ≤ n ∧ ∃ x, wr = w6.drewN x) (fun u _ => n - (intOf u).toNat)
  case atStart => exact ⟨0, rfl, Nat.zero_le _, 0, rfl⟩
  case round =>
    obtain ⟨q, rfl, hq, x, rfl⟩ := hrel
    by_cases hlt : q < n
    · have hqz : q < zs.length := by rw [HNL.out]; exact hlt
      obtain ⟨a, o, rfl, ha, hc1⟩ := HRA.out.below HB6.out q (by rw [iv_len]; exact hqz)
      have e1 : (iv zs)[q]'(by rw [iv_len]; exact hqz) = .int .i64 zs[q] := by simp [iv]
      rw [e1] at hc1
      have hc2 : w6.cell? ⟨G, q, none⟩ = some (.int .i64 zs[q]) := by
        rw [cell_of_row w6 G q _ 3 (0, 0) HROW.out]
        simp [iv, hqz]
      generalize zs[q] = v at *
      go_wp2_with fail
      go_quiet (fail)
      go_wp2_with fail
      go_roundw
      case rel => exact ⟨q + 1, by go_num, by omega, _, rfl⟩
      case measure => simp [intOf]; omega
    · obtain rfl : q = n := by omega
      go_wp2_with fail
      refine (HL.out _).mono ?_
      rintro r w7 ⟨rfl, hb7⟩
      have HB7 : Hid (Below w.heap.size w w7) := Lib.hid (HB6.out.trans ((show Below w6.heap.size w6 w7 from ⟨hb7.os, hb7.tape, hb7.output, hb7.size, hb7.block⟩).mono HB6.out.size))
      clear hb7
      go_wp2_with fail
      go_ret
      exact ⟨rfl, HB7.out⟩
end Go.Proofs.Ytecoobeddjfegaa
