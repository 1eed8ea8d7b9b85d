/- The law's same and steps, where all is as it should be. -/
import Derived.Test.YtejgcpohdbiaoaaBase
import Derived.Deep.Cut
namespace Go.Proofs.Ytejgcpohdbiaoaa
open Go.RowKit

/-- true is returned; nothing has changed -/
def YesD (w : World) (e : Ending) (w' : World) : Prop := e = .returned (.bool true) ∧ ∃ m, w' = w.drewN m
set_option maxHeartbeats 2000000 in
theorem same_any {w : World} {A B : Option Addr} (c : Nat) {zs : List Int} {f : Int} (ha : RdI w w.heap.size A zs) (hb : RdI w w.heap.size B zs) (hl : zs.length ≤ 9223372036854775807) :
    Calls Try.prog 11 #[.slice A zs.length zs.length, .int .i64 f, .slice B zs.length c, .int .i64 f] w (YesD w) := by
  have HA := Lib.hid ha
  have HB := Lib.hid hb
  clear ha hb
  go_enter Try.func11, Try.ntmps11
  go_wp2_with fail
  go_loopw [9] (fun v wr => ∃ i m : Nat, i ≤ zs.length ∧ v = .int .i64 i ∧ wr = w.drewN m) (fun v _ => zs.length - (intOf v).toNat)
  case atStart => exact ⟨0, 0, Nat.zero_le _, rfl, rfl⟩
  case round =>
    obtain ⟨i, m, hi, rfl, rfl⟩ := hrel
    by_cases hlt : i < zs.length
    · obtain ⟨b, o, rfl, _, c1⟩ := HA.out i hlt
      obtain ⟨b2, o2, rfl, _, c2⟩ := HB.out i hlt
      generalize zs[i] = x at *
      go_upto_region 6 with fail
      go_quiet (fail)
      go_wp2_with fail
      go_roundw
      case rel => exact ⟨i + 1, _, by omega, by go_num, rfl⟩
      case measure => first | (simp [intOf]; done) | (simp [intOf]; omega)
    · obtain rfl : i = zs.length := by omega
      go_wp2_with fail
      go_ret
      exact ⟨rfl, m, rfl⟩
set_option maxHeartbeats 2000000 in
theorem steps_any {w : World} {A B : Option Addr} (c : Nat) {zs : List (Int × Int)} {f : Int} (ha : RdP w w.heap.size A zs) (hb : RdP w w.heap.size B zs) (hl : zs.length ≤ 9223372036854775807) :
    Calls Try.prog 17 #[.slice A zs.length zs.length, .int .i64 f, .slice B zs.length c, .int .i64 f] w (YesD w) := by
  have HA := Lib.hid ha
  have HB := Lib.hid hb
  clear ha hb
  go_enter Try.func17, Try.ntmps17
  go_wp2_with fail
  go_loopw [9] (fun v wr => ∃ i m : Nat, i ≤ zs.length ∧ v = .int .i64 i ∧ wr = w.drewN m) (fun v _ => zs.length - (intOf v).toNat)
  case atStart => exact ⟨0, 0, Nat.zero_le _, rfl, rfl⟩
  case round =>
    obtain ⟨i, m, hi, rfl, rfl⟩ := hrel
    by_cases hlt : i < zs.length
    · obtain ⟨b, o, rfl, _, c1, d1⟩ := HA.out i hlt
      obtain ⟨b2, o2, rfl, _, c2, d2⟩ := HB.out i hlt
      generalize zs[i].1 = x at *
      generalize zs[i].2 = y at *
      go_upto_region 6 with fail
      go_quiet (fail)
      go_wp2_with fail
      go_roundw
      case rel => exact ⟨i + 1, _, by omega, by go_num, rfl⟩
      case measure => first | (simp [intOf]; done) | (simp [intOf]; omega)
    · obtain rfl : i = zs.length := by omega
      go_wp2_with fail
      go_ret
      exact ⟨rfl, m, rfl⟩
end Go.Proofs.Ytejgcpohdbiaoaa
