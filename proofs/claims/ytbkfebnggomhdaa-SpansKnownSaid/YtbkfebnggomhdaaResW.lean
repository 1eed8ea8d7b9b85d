/- The walks of result, Clip, stretch, within. -/
import Derived.Test.YtbkfebnggomhdaaBase
import Derived.Test.YtbkfebnggomhdaaSet
namespace Go.Proofs.Ytbkfebnggomhdaa
open Go.RowKit

set_option maxHeartbeats 400000 in
theorem clip_any (A : Option Addr) (n c : Nat) (w : World) (hn : n ≤ c) :
    Calls Try.prog 42 #[.slice A n c] w fun e w' => e = .returned (.slice A n n) ∧ w = w' := by
  have h1 : (0 : Int) ≤ (n : Int) := Int.natCast_nonneg _
  have h2 : (n : Int) ≤ (c : Int) := by omega
  go_enter Try.func42, Try.ntmps42
  go_wp2
  go_ret
  exact ⟨rfl, rfl⟩

set_option maxHeartbeats 400000 in
theorem within_any (x : Int) (w : World) :
    Calls Try.prog 38 #[.int .i64 x] w fun e w' => e = .returned (.bool (okP x)) ∧ w = w' := by
  by_cases h1 : 0 ≤ x
  · by_cases h2 : x ≤ 1073741824
    · go_enter Try.func38, Try.ntmps38
      go_wp2
      go_ret
      exact ⟨ret_bool (okP_t h1 h2).symm, rfl⟩
    · have : decide (x ≤ 1073741824) = false := by simp; omega
      go_enter Try.func38, Try.ntmps38
      go_wp2
      go_ret
      exact ⟨ret_bool (okP_f (by omega)).symm, rfl⟩
  · have : decide (0 ≤ x) = false := by simp; omega
    go_enter Try.func38, Try.ntmps38
    go_wp2
    go_ret
    exact ⟨ret_bool (okP_f (by omega)).symm, rfl⟩

set_option maxHeartbeats 400000 in
theorem result_ok (A : Option Addr) (n c : Nat) (w : World) (hn : n ≤ c) (h4 : n ≤ 4096) :
    Calls Try.prog 33 #[.slice A n c] w fun e w' => e = .returned (.tuple #[.slice A n n, .int .i64 0]) ∧ w = w' := by
  go_enter Try.func33, Try.ntmps33
  go_wp2_with (go_at_call 42; refine (clip_any _ _ _ _ hn).mono ?_; rintro e w1 ⟨rfl, rfl⟩)
  go_ret2
  exact ⟨rfl, rfl⟩
set_option maxHeartbeats 400000 in
theorem result_no (A : Option Addr) (n c : Nat) (w : World) (hn : n ≤ 4611686018427387904) (h4 : 4096 < n) :
    Calls Try.prog 33 #[.slice A n c] w fun e w' => e = .returned (.tuple #[.slice none 0 0, .int .i64 3]) ∧ w = w' := by
  go_enter Try.func33, Try.ntmps33
  go_wp2
  go_ret2
  exact ⟨rfl, rfl⟩

set_option maxHeartbeats 400000 in
theorem stretch_nil (A : Option Addr) (c : Nat) (at_ : Int) (w : World) :
    Calls Try.prog 43 #[.slice A 0 c, .int .i64 at_] w fun e w' => e = .returned (.tuple #[.bool false, .int .i64 1073741824]) ∧ w = w' := by
  go_enter Try.func43, Try.ntmps43
  go_wp2
  go_ret2
  exact ⟨rfl, rfl⟩
theorem ret_bi {a b : Bool} {x y : Int} (h : a = b) (h2 : x = y) : Ending.returned (.tuple #[.bool a, .int .i64 x]) = .returned (.tuple #[.bool b, .int .i64 y]) := by rw [h, h2]
set_option maxHeartbeats 400000 in
theorem stretch_cons (b o n c : Nat) (at_ p q : Int) (r : List Sp) (w : World) (hn : 0 < n) (hl : n ≤ 4611686018427387904) (c0 : w.cell? ⟨b, o, none⟩ = some (.int .i64 p)) (c1 : w.cell? ⟨b, o + 1, none⟩ = some (.int .i64 q)) :
    Calls Try.prog 43 #[.slice (some ⟨b, o, none⟩) n c, .int .i64 at_] w fun e w' => e = .returned (.tuple #[.bool (strIn ((p, q) :: r) at_), .int .i64 (strEnd ((p, q) :: r) at_)]) ∧ ∃ k, w' = w.drewN k := by
  have hn0 : ((n : Int) == 0) = false := by simp; omega
  have hn1 : (0 : Int) < (n : Int) := by omega
  by_cases h : at_ < p
  · have h1 := Lib.hid (strIn_lt (s := (p, q)) (r := r) h)
    have h2 := Lib.hid (strEnd_lt (s := (p, q)) (r := r) h)
    go_enter Try.func43, Try.ntmps43
    go_wp2
    go_quiet (fail)
    go_wp2
    go_ret2
    exact ⟨ret_bi h1.out.symm h2.out.symm, _, rfl⟩
  · have h1 := Lib.hid (strIn_ge (s := (p, q)) (r := r) (a := at_) (by simp; omega))
    have h2 := Lib.hid (strEnd_ge (s := (p, q)) (r := r) (a := at_) (by simp; omega))
    go_enter Try.func43, Try.ntmps43
    go_wp2
    go_quiet (fail)
    go_wp2
    go_ret2
    exact ⟨ret_bi h1.out.symm h2.out.symm, _, rfl⟩
theorem stretch_any (A : Option Addr) (B c : Nat) (at_ : Int) (xs : List Sp) (w : World) (hr : Rd w B A xs) (hl : xs.length ≤ 4611686018427387904) :
    Calls Try.prog 43 #[.slice A xs.length c, .int .i64 at_] w fun e w' => e = .returned (.tuple #[.bool (strIn xs at_), .int .i64 (strEnd xs at_)]) ∧ ∃ k, w' = w.drewN k := by
  cases xs with
  | nil => exact (stretch_nil A c at_ w).mono fun e w' ⟨he, hw⟩ => ⟨he, 0, hw.symm⟩
  | cons s r =>
    obtain ⟨b, o, rfl, _, c0, c1⟩ := hr 0 (by simp)
    simp only [Nat.zero_mul, Nat.add_zero, List.getElem_cons_zero] at c0 c1
    exact stretch_cons b o _ c at_ s.1 s.2 r w (by simp) hl c0 c1
/-- what a call hands back that makes the set with the places m: the list that the set has, or 'too many spans' -/
def SetRes (m : Int → Bool) (e : Ending) (w' : World) : Prop :=
  ∃ out : List Sp, Val (-1) out ∧ (∀ i, hasB out i = m i) ∧
    ((out.length ≤ 4096 ∧ ∃ A, e = .returned (.tuple #[.slice A out.length out.length, .int .i64 0]) ∧ Rd w' w'.heap.size A out) ∨
     (4096 < out.length ∧ e = .returned (.tuple #[.slice none 0 0, .int .i64 3])))
end Go.Proofs.Ytbkfebnggomhdaa
