import Derived.Test.YtbdjpacmbaoaeaaDoorSBase
namespace Go.Proofs.YtbdjpacmbaoaeaaDoor.S
open Go.RowKit
set_option maxHeartbeats 400000 in
theorem check_any (A : Option Addr) (c : Nat) (xs : List Sp) (w : World) (hr : Rd w w.heap.size A xs) (hl : xs.length ≤ 4611686018427387904) :
    Calls Tryd.prog 45 #[.slice A xs.length c] w fun e w' => e = .returned (.int .i64 (chk xs)) ∧ Below w.heap.size w w' := by
  unfold chk
  by_cases hlen : 4096 < xs.length
  · rw [if_pos hlen]
    go_enter Tryd.func45, Tryd.ntmps45
    go_wp2
    go_ret
    exact ⟨rfl, Below.refl _ _⟩
  · rw [if_neg hlen]
    go_enter Tryd.func45, Tryd.ntmps45
    go_wp2
    go_loopw [3, 11] (fun l i wr => ∃ (k : Nat) (last : Int), k ≤ xs.length ∧ i = .int .i64 k ∧ l = .int .i64 last ∧ chkFrom (-1) xs = chkFrom last (xs.drop k) ∧ Below w.heap.size w wr) (fun _ i _ => xs.length - (intOf i).toNat)
    case atStart => exact ⟨0, -1, Nat.zero_le _, rfl, rfl, rfl, Below.refl _ _⟩
    case round =>
      obtain ⟨k, last, hk, rfl, rfl, hc, hb⟩ := hrel
      by_cases hlt : k < xs.length
      · have hs := chkFrom_drop (last := last) hlt
        rw [hs] at hc
        have HC := Lib.hid hc; clear hc hs
        obtain ⟨b, o, hA, hbl, c0, c1⟩ := hr.below hb k hlt
        subst hA
        generalize xs[k] = s at *
        obtain ⟨p, q⟩ := s
        go_wp2
        all_goals first
          | (go_ret; exact ⟨ret_int (by rw [HC.out, if_pos (by omega)]), hb.alloc hb.size _⟩)
          | (go_ret; exact ⟨ret_int (by rw [HC.out, if_neg (by omega), if_pos (by omega)]), hb.alloc hb.size _⟩)
          | (go_roundw
             case rel => exact ⟨k + 1, q, by omega, by go_num, rfl, by rw [HC.out, if_neg (by omega), if_neg (by omega)], hb.alloc hb.size _⟩
             case measure => simp [intOf]; omega)
      · go_wp2
        go_ret
        exact ⟨ret_int (by rw [hc, chkFrom_end (by omega)]), hb⟩
end Go.Proofs.YtbdjpacmbaoaeaaDoor.S
