/- The walks of the reference's Check and Has, and of Has, Count, same. -/
import Derived.Test.YtbkfebnggomhdaaCheckW
namespace Go.Proofs.Ytbkfebnggomhdaa
open Go.RowKit
set_option maxHeartbeats 800000 in
theorem refHas_any (A : Option Addr) (c : Nat) (xs : List Sp) (i : Int) (w : World) (hr : Rd w w.heap.size A xs) (hl : xs.length ≤ 4611686018427387904) :
    Calls Try.prog 14 #[.slice A xs.length c, .int .i64 i] w fun e w' => e = .returned (.bool (hasB xs i)) ∧ Below w.heap.size w w' := by
  go_enter Try.func14, Try.ntmps14
  go_wp2
  go_loopw [5] (fun j wr => ∃ (k : Nat), k ≤ xs.length ∧ j = .int .i64 k ∧ Hid (hasB xs i = hasB (xs.drop k) i) ∧ Below w.heap.size w wr) (fun j _ => xs.length - (intOf j).toNat)
  case atStart => exact ⟨0, Nat.zero_le _, rfl, rfl, Below.refl _ _⟩
  case round =>
    obtain ⟨k, hk, rfl, HC, hb⟩ := hrel
    by_cases hlt : k < xs.length
    · have HD := Lib.hid (hasB_drop (i := i) hlt)
      obtain ⟨b, o, hA, hbl, c0, c1⟩ := hr.below hb k hlt
      subst hA
      generalize xs[k] = s at *
      obtain ⟨p, q⟩ := s
      go_wp2
      all_goals first
        | (go_ret; exact ⟨ret_bool (by rw [HC.out, HD.out, if_pos (by omega)]), hb⟩)
        | (go_roundw
           case rel => exact ⟨k + 1, by omega, by go_num, by rw [HC.out, HD.out, if_neg (by omega)]; rfl, hb⟩
           case measure => simp [intOf]; omega)
    · go_wp2
      go_ret
      exact ⟨ret_bool (by rw [HC.out, hasB_end (by omega)]), hb⟩

set_option maxHeartbeats 800000 in
theorem has_any (A : Option Addr) (c : Nat) (xs : List Sp) (i : Int) (w : World) (hr : Rd w w.heap.size A xs) (hl : xs.length ≤ 4611686018427387904) :
    Calls Try.prog 13 #[.slice A xs.length c, .int .i64 i] w fun e w' => e = .returned (.bool (hasS xs i)) ∧ Below w.heap.size w w' := by
  by_cases h0 : chk xs = 0
  · have h0' : (chk xs != 0) = false := by rw [h0]; rfl
    have H0 := Lib.hid h0; clear h0
    go_enter Try.func13, Try.ntmps13
    go_wp2_with (go_at_call 12; refine (check_any _ _ _ _ hr hl).mono ?_; rintro e w1 ⟨rfl, hb1⟩)
    clear h0'
    go_loopw [12] (fun j wr => ∃ (k : Nat), k ≤ xs.length ∧ j = .int .i64 k ∧ Hid (hasB xs i = hasB (xs.drop k) i) ∧ Below w.heap.size w wr) (fun j _ => xs.length - (intOf j).toNat)
    case atStart => exact ⟨0, Nat.zero_le _, rfl, rfl, hb1⟩
    case round =>
      obtain ⟨k, hk, rfl, HC, hb⟩ := hrel
      by_cases hlt : k < xs.length
      · have HD := Lib.hid (hasB_drop (i := i) hlt)
        obtain ⟨b, o, hA, hbl, c0, c1⟩ := hr.below hb k hlt
        subst hA
        generalize xs[k] = s at *
        obtain ⟨p, q⟩ := s
        go_wp2
        all_goals first
          | (go_ret; exact ⟨ret_bool (by rw [hasS_ok H0.out, HC.out, HD.out, if_pos (by omega)]), hb.alloc hb.size _⟩)
          | (go_roundw
             case rel => exact ⟨k + 1, by omega, by go_num, by rw [HC.out, HD.out, if_neg (by omega)]; rfl, hb.alloc hb.size _⟩
             case measure => simp [intOf]; omega)
      · go_wp2
        go_ret
        exact ⟨ret_bool (by rw [hasS_ok H0.out, HC.out, hasB_end (by omega)]), hb⟩
  · have h0' : (chk xs != 0) = true := by simpa using h0
    have H0 := Lib.hid h0; clear h0
    go_enter Try.func13, Try.ntmps13
    go_wp2_with (go_at_call 12; refine (check_any _ _ _ _ hr hl).mono ?_; rintro e w1 ⟨rfl, hb1⟩)
    go_ret
    exact ⟨ret_bool (by rw [hasS_no H0.out]), hb1⟩

set_option maxHeartbeats 800000 in
theorem count_any (A : Option Addr) (c : Nat) (xs : List Sp) (w : World) (hr : Rd w w.heap.size A xs) (hl : xs.length ≤ 4611686018427387904) :
    Calls Try.prog 15 #[.slice A xs.length c] w fun e w' => e = .returned (.int .i64 (cnt xs)) ∧ Below w.heap.size w w' := by
  by_cases h0 : chk xs = 0
  · have h0' : (chk xs != 0) = false := by rw [h0]; rfl
    have H0 := Lib.hid h0; clear h0
    go_enter Try.func15, Try.ntmps15
    go_wp2_with (go_at_call 12; refine (check_any _ _ _ _ hr hl).mono ?_; rintro e w1 ⟨rfl, hb1⟩)
    clear h0'
    go_loopw [3, 11] (fun t j wr => ∃ (k : Nat) (acc : Int), k ≤ xs.length ∧ j = .int .i64 k ∧ t = .int .i64 acc ∧ 0 ≤ acc ∧ acc ≤ k * 1073741824 ∧ Hid (sumB 0 xs = sumB acc (xs.drop k)) ∧ Below w.heap.size w wr) (fun _ j _ => xs.length - (intOf j).toNat)
    case atStart => exact ⟨0, 0, Nat.zero_le _, rfl, rfl, by omega, by omega, rfl, hb1⟩
    case round =>
      obtain ⟨k, acc, hk, rfl, rfl, ha0, ha1, HC, hb⟩ := hrel
      have h4 := chk_len H0.out
      by_cases hlt : k < xs.length
      · have HD := Lib.hid (sumB_drop (acc := acc) hlt)
        obtain ⟨hp0, hp1, hp2⟩ := chk_get H0.out k hlt
        obtain ⟨b, o, hA, hbl, c0, c1⟩ := hr.below hb k hlt
        subst hA
        generalize xs[k] = s at *
        obtain ⟨p, q⟩ := s
        simp only at hp0 hp1 hp2
        go_wp2
        go_roundw
        case rel => exact ⟨k + 1, acc + (q - p), by omega, by go_num, by go_num, by omega, by omega, by rw [HC.out, HD.out]; rfl, hb.alloc hb.size _⟩
        case measure => simp [intOf]; omega
      · go_wp2
        go_ret
        exact ⟨ret_int (by rw [cnt_ok H0.out, HC.out, sumB_end (by omega)]), hb⟩
  · have h0' : (chk xs != 0) = true := by simpa using h0
    have H0 := Lib.hid h0; clear h0
    go_enter Try.func15, Try.ntmps15
    go_wp2_with (go_at_call 12; refine (check_any _ _ _ _ hr hl).mono ?_; rintro e w1 ⟨rfl, hb1⟩)
    go_ret
    exact ⟨ret_int (by rw [cnt_no H0.out]), hb1⟩

end Go.Proofs.Ytbkfebnggomhdaa
