/- The law's list, same, of, old, where all is as it should be. -/
import Derived.Test.YtakgnpmfnechhaaMapW
import Derived.Deep.Cut
namespace Go.Proofs.Ytakgnpmfnechhaa
open Go.RowKit

/-- true is returned; nothing has changed -/
def YesD (w : World) (e : Ending) (w' : World) : Prop := e = .returned (.bool true) ∧ ∃ m, w' = w.drewN m
/-- true is returned, and nothing that was there has changed -/
def YesB (w : World) (e : Ending) (w' : World) : Prop := e = .returned (.bool true) ∧ Below w.heap.size w w'
theorem yesD_b {W V : World} {e : Ending} {w' : World} (h : YesD V e w') (hb : Below W.heap.size W V) : e = .returned (.bool true) ∧ Below W.heap.size W w' := by
  obtain ⟨he, m, rfl⟩ := h
  exact ⟨he, hb.trans ((below_drewN V m).mono hb.size)⟩
set_option maxHeartbeats 2000000 in
theorem list_any {w : World} {A B : Option Addr} (c : Nat) {zs : List Int} {f : Int} (ha : RdI w w.heap.size A zs) (hb : RdI w w.heap.size B zs) (hl : zs.length ≤ 9223372036854775807) :
    Calls Try.prog 19 #[.slice A zs.length zs.length, .int .i64 f, .slice B zs.length c, .int .i64 f] w (YesD w) := by
  have HA := Lib.hid ha
  have HB := Lib.hid hb
  clear ha hb
  go_enter Try.func19, Try.ntmps19
  go_wp2_with fail
  go_loopw [9] (fun v wr => ∃ i m : Nat, i ≤ zs.length ∧ v = .int .i64 i ∧ wr = w.drewN m) (fun v _ => zs.length - (intOf v).toNat)
  case atStart => exact ⟨0, 0, Nat.zero_le _, rfl, rfl⟩
  case round =>
    obtain ⟨i, m, hi, rfl, rfl⟩ := hrel
    by_cases hlt : i < zs.length
    · obtain ⟨b, o, rfl, _, c1⟩ := HA.out i hlt
      obtain ⟨b2, o2, rfl, _, c2⟩ := HB.out i hlt
      generalize zs[i] = x at *
      go_upto_region 6 with fail
      go_quiet (fail)
      go_wp2_with fail
      go_roundw
      case rel => exact ⟨i + 1, _, by omega, by go_num, rfl⟩
      case measure => first | (simp [intOf]; done) | (simp [intOf]; omega)
    · obtain rfl : i = zs.length := by omega
      go_wp2_with fail
      go_ret
      exact ⟨rfl, m, rfl⟩
set_option maxHeartbeats 2000000 in
theorem same_any {w : World} {A B : Option Addr} (o f : Int) (c : Nat) {zs : List Int} (ha : RdI w w.heap.size A zs) (hb : RdI w w.heap.size B zs) (hl : zs.length ≤ 9223372036854775807) :
    Calls Try.prog 18 #[.agg #[.int .i64 o, .slice A zs.length zs.length], .int .i64 f, .int .i64 o, .slice B zs.length c, .int .i64 f] w (YesB w) := by
  have hB := below_new w (.cells #[.int .i64 o, .slice A zs.length zs.length] 24)
  have K := Lib.hid (list_any (w := w.alloc (.cells #[.int .i64 o, .slice A zs.length zs.length] 24)) c (f := 0) ((ha.next hB)) (hb.next hB) hl)
  have HB := Lib.hid hB
  clear ha hb hB
  go_enter Try.func18, Try.ntmps18
  go_wp2_with fail
  refine K.out.mono ?_
  rintro e w1 ⟨rfl, m, rfl⟩
  clear K
  go_wp2_with fail
  go_ret
  exact ⟨rfl, HB.out.trans ((below_drewN _ m).mono HB.out.size)⟩
theorem of_any (w : World) (o : Int) (A : Option Addr) (n c : Nat) : Calls Try.prog 11 #[.int .i64 o, .slice A n c] w fun e w' => e = .returned (.agg #[.int .i64 o, .slice A n c]) ∧ w' = w.alloc (.cells #[.int .i64 o, .slice A n c] 24) := by
  go_enter Try.func11, Try.ntmps11
  go_wp2_with fail
  exact bodyPost_ret (res_map rfl (g := w.heap.size) rfl (heap_alloc_new w _)) rfl ⟨rfl, rfl⟩
theorem old_ok (w : World) (n : Int) : Calls Try.prog 29 #[.int .i64 n, .int .i64 0] w (NumS n w) := by
  go_enter Try.func29, Try.ntmps29
  go_wp2_with fail
  go_ret
  exact ⟨rfl, rfl⟩
theorem old_err (w : World) (n e : Int) (h : e ≠ 0) : Calls Try.prog 29 #[.int .i64 n, .int .i64 e] w (NumS 0 w) := by
  have h2 : (e == 0) = false := by simpa using h
  have h3 : (e != 0) = true := by simpa using h
  go_enter Try.func29, Try.ntmps29
  go_wp2_with fail
  go_ret
  exact ⟨rfl, rfl⟩
end Go.Proofs.Ytakgnpmfnechhaa
