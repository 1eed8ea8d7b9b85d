/- The walk of the law SpansCheck. -/
import Derived.Test.YtbkfebnggomhdaaLvAux
import Derived.Test.YtbkfebnggomhdaaRefCW
namespace Go.Proofs.Ytbkfebnggomhdaa
open Go.RowKit

def LivesOk : Prop := ∀ w : World, Calls Try.prog 9 #[] w fun e w' => e = .returned (.bool true) ∧ Below w.heap.size w w'

set_option maxHeartbeats 1000000 in
theorem law1_long (hL : LivesOk) (A : Option Addr) (c : Nat) (xs : List Sp) (i : Int) (w : World) (hl : 40 < xs.length) (hl2 : xs.length ≤ 9223372036854775807) :
    Calls Try.prog 3 #[.slice A xs.length c, .int .i64 i] w fun e w' => e = .returned (.bool true) ∧ Below w.heap.size w w' := by
  have HL := Lib.hid hL; clear hL
  go_enter Try.func3, Try.ntmps3
  go_wp2_with fail
  refine (HL.out _).mono ?_
  rintro e w1 ⟨rfl, hb⟩
  go_wp2_with fail
  go_ret
  exact ⟨rfl, hb⟩

set_option maxHeartbeats 2000000 in
theorem law1_bad (hL : LivesOk) (A : Option Addr) (c : Nat) (xs : List Sp) (i : Int) (w : World) (hr : Rd w w.heap.size A xs) (hl : xs.length ≤ 40) (h0 : chk xs ≠ 0) :
    Calls Try.prog 3 #[.slice A xs.length c, .int .i64 i] w fun e w' => e = .returned (.bool true) ∧ Below w.heap.size w w' := by
  have HL := Lib.hid hL; clear hL
  have hpos : 0 < xs.length := by
    rcases Nat.eq_zero_or_pos xs.length with h | h
    · obtain rfl := List.eq_nil_of_length_eq_zero h
      exact absurd rfl h0
    · exact h
  have HH : Hid (∀ W, Rd W W.heap.size A xs → Calls Try.prog 13 #[.slice A xs.length c, .int .i64 i] W fun e w' => e = .returned (.bool false) ∧ Below W.heap.size W w') :=
    fun W h => has_at xs h rfl (hasS_no h0) (by omega)
  have HC : Hid (∀ W, Rd W W.heap.size A xs → Calls Try.prog 15 #[.slice A xs.length c] W fun e w' => e = .returned (.int .i64 0) ∧ Below W.heap.size W w') :=
    fun W h => count_at xs h rfl (cnt_no h0) (by omega)
  have b2 : (chk xs == 0) = false := by simpa using h0
  have HP := Lib.hid (pairs_any A c xs w hr (by omega))
  clear h0
  go_enter Try.func3, Try.ntmps3
  go_wp2_with fail
  refine HP.out.mono ?_
  rintro e w1 ⟨v, rfl, ho, hb⟩
  obtain ⟨B, d, rfl, hd, hrd⟩ := ho.rd
  go_wp2_with fail
  refine (refCheck_any B d xs w1 hrd (by omega)).mono ?_
  rintro e w2 ⟨rfl, hb2⟩
  replace hb := hb.trans (hb2.mono hb.size)
  clear hb2 ho hrd
  go_wp2_with fail
  go_loopw [6, 7] (fun un ui wr => un = .int .i64 0 ∧ ui = .int .i64 0 ∧ Below w.heap.size w wr) (fun _ _ _ => 0)
  case atStart => exact ⟨rfl, rfl, hb⟩
  case round =>
    obtain ⟨rfl, rfl, hbr⟩ := hrel
    have hr' : Rd wr wr.heap.size A xs := (hr.below hbr).more hbr.size
    go_wp2_with fail
    refine (check_any A c xs wr hr' (by omega)).mono ?_
    rintro e w3 ⟨rfl, k3⟩
    replace hr' := hr'.next k3
    replace hbr := hbr.trans (k3.mono hbr.size)
    go_wp2_with fail
    refine (HH.out _ hr').mono ?_
    rintro e w4 ⟨rfl, k4⟩
    replace hr' := hr'.next k4
    replace hbr := hbr.trans (k4.mono hbr.size)
    go_wp2_with fail
    refine (HC.out _ hr').mono ?_
    rintro e w5 ⟨rfl, k5⟩
    replace hbr := hbr.trans (k5.mono hbr.size)
    go_wp2_with fail
    refine (HL.out _).mono ?_
    rintro e w6 ⟨rfl, k6⟩
    replace hbr := hbr.trans (k6.mono hbr.size)
    go_wp2_with fail
    go_ret
    exact ⟨rfl, hbr⟩

set_option maxHeartbeats 4000000 in
theorem law1_ok (hL : LivesOk) (A : Option Addr) (c : Nat) (xs : List Sp) (i : Int) (b : Bool) (w : World) (hr : Rd w w.heap.size A xs) (hl : xs.length ≤ 40) (h0 : chk xs = 0) (hbv : hasB xs i = b) :
    Calls Try.prog 3 #[.slice A xs.length c, .int .i64 i] w fun e w' => e = .returned (.bool true) ∧ Below w.heap.size w w' := by
  have HL := Lib.hid hL; clear hL
  have HH : Hid (∀ W, Rd W W.heap.size A xs → Calls Try.prog 13 #[.slice A xs.length c, .int .i64 i] W fun e w' => e = .returned (.bool b) ∧ Below W.heap.size W w') :=
    fun W h => has_at xs h rfl (by rw [hasS_ok h0, hbv]) (by omega)
  have HHR : Hid (∀ B d W, Rd W W.heap.size B xs → Calls Try.prog 14 #[.slice B xs.length d, .int .i64 i] W fun e w' => e = .returned (.bool b) ∧ Below W.heap.size W w') :=
    fun B d W h => (refHas_any B d xs i W h (by omega)).mono (by rw [hbv]; exact fun _ _ h => h)
  have HC : Hid (∀ W, Rd W W.heap.size A xs → Calls Try.prog 15 #[.slice A xs.length c] W fun e w' => e = .returned (.int .i64 (sumB 0 xs)) ∧ Below W.heap.size W w') :=
    fun W h => count_at xs h rfl (cnt_ok h0) (by omega)
  have HK : Hid (∀ W, Rd W W.heap.size A xs → Calls Try.prog 12 #[.slice A xs.length c] W fun e w' => e = .returned (.int .i64 0) ∧ Below W.heap.size W w') :=
    fun W h => check_at xs h rfl h0 (by omega)
  have HKR : Hid (∀ B d W, Rd W W.heap.size B xs → Calls Try.prog 10 #[.slice B xs.length d] W fun e w' => e = .returned (.int .i64 0) ∧ Below W.heap.size W w') :=
    fun B d W h => (refCheck_any B d xs W h (by omega)).mono (by rw [h0]; exact fun _ _ h => h)
  have HP : Hid (∀ W, Rd W W.heap.size A xs → Calls Try.prog 11 #[.slice A xs.length c] W fun e w' => ∃ v, e = .returned v ∧ Own w' W.heap.size 51 v xs ∧ Below W.heap.size W w') :=
    fun W h => pairs_any A c xs W h (by omega)
  have H0 := Lib.hid h0
  clear h0 hbv
  go_enter Try.func3, Try.ntmps3
  go_wp2_with fail
  refine (HP.out _ hr).mono ?_
  rintro e w1 ⟨v, rfl, ho, hb⟩
  obtain ⟨B, d, rfl, hd, hrd⟩ := ho.rd
  go_wp2_with fail
  refine (HKR.out B d w1 hrd).mono ?_
  rintro e w2 ⟨rfl, hb2⟩
  replace hb := hb.trans (hb2.mono hb.size)
  clear hb2 ho hrd
  go_wp2_with fail
  go_loopw [6, 7] (fun un ui wr => ∃ (k : Nat) (acc : Int), un = .int .i64 acc ∧ ui = .int .i64 k ∧ k ≤ xs.length ∧ 0 ≤ acc ∧ acc ≤ k * 1073741824 ∧ Hid (sumB 0 xs = sumB acc (xs.drop k)) ∧ Below w.heap.size w wr) (fun _ ui _ => xs.length - (intOf ui).toNat)
  case atStart => exact ⟨0, 0, rfl, rfl, Nat.zero_le _, by omega, by omega, rfl, hb⟩
  case round =>
    obtain ⟨k, acc, rfl, rfl, hk, ha0, ha1, HS, hbr⟩ := hrel
    by_cases hlt : k < xs.length
    · have HD := Lib.hid (sumB_drop (acc := acc) hlt)
      obtain ⟨hp0, hp1, hp2⟩ := chk_get H0.out k hlt
      obtain ⟨b1, o1, hA, hbl, c0, c1⟩ := hr.below hbr k hlt
      subst hA
      generalize xs[k] = s at *
      obtain ⟨p, q⟩ := s
      simp only at hp0 hp1 hp2 c0 c1
      have hi0 : (0 : Int) ≤ (k : Int) := Int.natCast_nonneg _
      have hi1 : (k : Int) < (xs.length : Int) := by omega
      have hw0 : IntKind.i64.wrap (q - p) = q - p := IntWalk.i64_in _ (by omega)
      have hw1 : IntKind.i64.wrap (acc + (q - p)) = acc + (q - p) := IntWalk.i64_in _ (by omega)
      go_wp2_with fail
      go_quiet (fail)
      clear hw0 hw1
      go_wp2_with fail
      go_roundw
      case rel => exact ⟨k + 1, acc + (q - p), by go_num, by go_num, by omega, by omega, by omega, by rw [HS.out, HD.out]; rfl, below_drewN hbr _⟩
      case measure => simp [intOf]; omega
    · have hr' : Rd wr wr.heap.size A xs := (hr.below hbr).more hbr.size
      have HS2 : Hid (sumB 0 xs = acc) := by rw [HS.out, sumB_end (by omega)]; rfl
      clear HS
      go_wp2_with fail
      refine (HK.out wr hr').mono ?_
      rintro e w3 ⟨rfl, k3⟩
      replace hr' := hr'.next k3
      replace hbr := hbr.trans (k3.mono hbr.size)
      clear k3
      go_wp2_with fail
      refine (HH.out _ hr').mono ?_
      rintro e w4 ⟨rfl, k4⟩
      replace hr' := hr'.next k4
      replace hbr := hbr.trans (k4.mono hbr.size)
      clear k4
      go_wp2_with fail
      refine (HP.out _ hr').mono ?_
      rintro e w5 ⟨v, rfl, ho, k5⟩
      obtain ⟨B2, d2, rfl, hd2, hrd2⟩ := ho.rd
      clear ho
      replace hr' := hr'.next k5
      replace hbr := hbr.trans (k5.mono hbr.size)
      clear k5
      go_wp2_with fail
      refine (HHR.out _ _ _ hrd2).mono ?_
      rintro e w6 ⟨rfl, k6⟩
      replace hr' := hr'.next k6
      replace hbr := hbr.trans (k6.mono hbr.size)
      clear k6
      go_wp2_with fail
      rw [HS2.out] at HC
      refine (HC.out _ hr').mono ?_
      rintro e w7 ⟨rfl, k7⟩
      replace hbr := hbr.trans (k7.mono hbr.size)
      clear k7
      go_wp2_with fail
      refine (HL.out _).mono ?_
      rintro e w8 ⟨rfl, k8⟩
      replace hbr := hbr.trans (k8.mono hbr.size)
      clear k8
      go_wp2_with fail
      go_ret
      exact ⟨rfl, hbr⟩

theorem law1_any (hL : LivesOk) (A : Option Addr) (c : Nat) (xs : List Sp) (i : Int) (w : World) (hr : Rd w w.heap.size A xs) (hl2 : xs.length ≤ 9223372036854775807) :
    Calls Try.prog 3 #[.slice A xs.length c, .int .i64 i] w fun e w' => e = .returned (.bool true) ∧ Below w.heap.size w w' := by
  by_cases hl : 40 < xs.length
  · exact law1_long hL A c xs i w hl hl2
  · by_cases h0 : chk xs = 0
    · exact law1_ok hL A c xs i _ w hr (by omega) h0 rfl
    · exact law1_bad hL A c xs i w hr (by omega) h0
end Go.Proofs.Ytbkfebnggomhdaa
