/- The walk of the reference's Check. -/
import Derived.Test.YtbkfebnggomhdaaBase
namespace Go.Proofs.Ytbkfebnggomhdaa
open Go.RowKit
set_option maxHeartbeats 1600000 in
theorem refCheck_any (A : Option Addr) (c : Nat) (xs : List Sp) (w : World) (hr : Rd w w.heap.size A xs) (hl : xs.length ≤ 4611686018427387904) :
    Calls Try.prog 10 #[.slice A xs.length c] w fun e w' => e = .returned (.int .i64 (chk xs)) ∧ Below w.heap.size w w' := by
  unfold chk
  by_cases hlen : 4096 < xs.length
  · rw [if_pos hlen]
    go_enter Try.func10, Try.ntmps10
    go_wp2
    go_ret
    exact ⟨rfl, Below.refl _ _⟩
  · rw [if_neg hlen]
    go_enter Try.func10, Try.ntmps10
    go_wp2
    go_loopw [3] (fun i wr => ∃ (k : Nat), k ≤ xs.length ∧ i = .int .i64 k ∧ Hid (chkFrom (-1) xs = chkFrom (prevB xs k) (xs.drop k)) ∧ Below w.heap.size w wr) (fun i _ => xs.length - (intOf i).toNat)
    case atStart => exact ⟨0, Nat.zero_le _, rfl, rfl, Below.refl _ _⟩
    case round =>
      obtain ⟨k, hk, rfl, HC, hb⟩ := hrel
      by_cases hlt : k < xs.length
      · have HD := Lib.hid (chkFrom_drop (last := prevB xs k) hlt)
        have HN := Lib.hid (prevB_succ hlt)
        have hi0' : (0 : Int) ≤ (k : Int) := Int.natCast_nonneg _
        have hi1 : (k : Int) < (xs.length : Int) := by omega
        obtain ⟨b, o, hA, hbl, c0, c1⟩ := hr.below hb k hlt
        subst hA
        generalize xs[k] = s at *
        obtain ⟨p, q⟩ := s
        by_cases h1 : p < 0
        · go_wp2
          go_quiet (fail)
          go_wp2
          go_ret
          exact ⟨ret_int (by rw [HC.out, HD.out, if_pos (by omega)]), below_drewN hb _⟩
        by_cases h2 : q ≤ p
        · go_wp2
          go_quiet (fail)
          go_wp2
          go_ret
          exact ⟨ret_int (by rw [HC.out, HD.out, if_pos (by omega)]), below_drewN hb _⟩
        by_cases h3 : 1073741824 < q
        · go_wp2
          go_quiet (fail)
          go_wp2
          go_ret
          exact ⟨ret_int (by rw [HC.out, HD.out, if_pos (by omega)]), below_drewN hb _⟩
        by_cases hk0 : k ≤ 0
        · have HP := Lib.hid (prevB_zero (xs := xs) hk0)
          have hd1 : decide (0 < k) = false := by simp; omega
          have hd2 : decide ((0 : Int) < (k : Int)) = false := by simp; omega
          go_wp2
          go_quiet (fail)
          go_wp2
          go_quiet (fail)
          go_wp2
          go_roundw
          case rel => exact ⟨k + 1, by omega, by go_num, by rw [HN.out, HC.out, HD.out, if_neg (by omega), if_neg (by rw [HP.out]; omega)]; rfl, below_drewN hb _⟩
          case measure => simp [intOf]; omega
        · have hkp : 0 < k := by omega
          have HP := Lib.hid (prevB_pos (xs := xs) hkp (by omega))
          obtain ⟨b', o', hA', hbl', c0', c1'⟩ := hr.below hb (k - 1) (by omega)
          obtain ⟨rfl, rfl⟩ : b = b' ∧ o = o' := by injection hA' with hA'; injection hA' with h1 h2; exact ⟨h1, h2⟩
          clear hA'
          generalize xs[k - 1] = s' at *
          obtain ⟨p', q'⟩ := s'
          have hj0 : (0 : Int) ≤ (k : Int) - 1 := by omega
          have hj1 : (k : Int) - 1 < (xs.length : Int) := by omega
          by_cases h4 : p ≤ q'
          · go_wp2
            go_quiet (fail)
            go_wp2
            go_quiet (fail)
            go_wp2
            go_ret
            exact ⟨ret_int (by rw [HC.out, HD.out, if_neg (by omega), if_pos (by rw [HP.out]; omega)]), below_drewN (below_drewN hb _) _⟩
          · go_wp2
            go_quiet (fail)
            go_wp2
            go_quiet (fail)
            go_wp2
            go_roundw
            case rel => exact ⟨k + 1, by omega, by go_num, by rw [HN.out, HC.out, HD.out, if_neg (by omega), if_neg (by rw [HP.out]; omega)]; rfl, below_drewN hb _⟩
            case measure => simp [intOf]; omega
      · go_wp2
        go_ret
        exact ⟨ret_int (by rw [HC.out, chkFrom_end (by omega)]), hb⟩
end Go.Proofs.Ytbkfebnggomhdaa
