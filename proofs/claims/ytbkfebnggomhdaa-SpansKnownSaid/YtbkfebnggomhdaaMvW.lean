/- Insert and Remove, as whole contracts. -/
import Derived.Test.YtbkfebnggomhdaaOpsW
namespace Go.Proofs.Ytbkfebnggomhdaa
open Go.RowKit
def rmC (xs : List Sp) (a n : Int) : Int := if chk xs = 0 then if okP a = true ∧ okP n = true then 0 else 4 else chk xs
def inC (xs : List Sp) (a n : Int) : Int := if chk xs = 0 then if okP a = true ∧ okP n = true then if endOf (-1) xs ≤ a ∨ endOf (-1) xs + n ≤ 1073741824 then 0 else 4 else 4 else chk xs

set_option maxRecDepth 100000 in
set_option maxHeartbeats 1000000 in
theorem ins_e1 (A : Option Addr) (c : Nat) (xs : List Sp) (at_ n : Int) (w : World) (hr : Rd w w.heap.size A xs) (hl : xs.length ≤ 2000000000) (h0 : chk xs ≠ 0) :
    Calls Try.prog 25 #[.slice A xs.length c, .int .i64 at_, .int .i64 n] w fun e w' => e = .returned (.tuple #[.slice none 0 0, .int .i64 (chk xs)]) ∧ Below w.heap.size w w' := by
  have h0' : (chk xs != 0) = true := by simpa using h0
  clear h0
  go_enter Try.func25, Try.ntmps25
  go_wp2_with fail
  refine (check_any _ _ _ _ hr (by omega)).mono ?_
  rintro e w1 ⟨rfl, hb1⟩
  go_wp2_with fail
  go_ret2
  exact ⟨rfl, hb1⟩

set_option maxRecDepth 100000 in
set_option maxHeartbeats 1000000 in
theorem ins_e2 (A : Option Addr) (c : Nat) (xs : List Sp) (at_ n : Int) (w : World) (hr : Rd w w.heap.size A xs) (hl : xs.length ≤ 2000000000) (h0 : chk xs = 0) (ha : okP at_ = false) :
    Calls Try.prog 25 #[.slice A xs.length c, .int .i64 at_, .int .i64 n] w fun e w' => e = .returned (.tuple #[.slice none 0 0, .int .i64 4]) ∧ Below w.heap.size w w' := by
  have h0' : (chk xs != 0) = false := by rw [h0]; rfl
  clear h0
  have wa : Hid (∀ W, Calls Try.prog 38 #[.int .i64 at_] W fun e w' => e = .returned (.bool false) ∧ W = w') := fun W => (within_any at_ W).mono (by rw [ha]; exact fun _ _ h => h)
  clear ha
  go_enter Try.func25, Try.ntmps25
  go_wp2_with fail
  refine (check_any _ _ _ _ hr (by omega)).mono ?_
  rintro e w1 ⟨rfl, hb1⟩
  go_wp2_with fail
  refine (wa.out _).mono ?_
  rintro e w2 ⟨rfl, rfl⟩
  go_wp2_with fail
  go_ret2
  exact ⟨rfl, hb1⟩

set_option maxRecDepth 100000 in
set_option maxHeartbeats 1000000 in
theorem ins_e3 (A : Option Addr) (c : Nat) (xs : List Sp) (at_ n : Int) (w : World) (hr : Rd w w.heap.size A xs) (hl : xs.length ≤ 2000000000) (h0 : chk xs = 0) (ha : okP at_ = true) (hn : okP n = false) :
    Calls Try.prog 25 #[.slice A xs.length c, .int .i64 at_, .int .i64 n] w fun e w' => e = .returned (.tuple #[.slice none 0 0, .int .i64 4]) ∧ Below w.heap.size w w' := by
  have h0' : (chk xs != 0) = false := by rw [h0]; rfl
  clear h0
  have wa : Hid (∀ W, Calls Try.prog 38 #[.int .i64 at_] W fun e w' => e = .returned (.bool true) ∧ W = w') := fun W => (within_any at_ W).mono (by rw [ha]; exact fun _ _ h => h)
  have wn : Hid (∀ W, Calls Try.prog 38 #[.int .i64 n] W fun e w' => e = .returned (.bool false) ∧ W = w') := fun W => (within_any n W).mono (by rw [hn]; exact fun _ _ h => h)
  clear ha hn
  go_enter Try.func25, Try.ntmps25
  go_wp2_with fail
  refine (check_any _ _ _ _ hr (by omega)).mono ?_
  rintro e w1 ⟨rfl, hb1⟩
  go_wp2_with fail
  refine (wa.out _).mono ?_
  rintro e w2 ⟨rfl, rfl⟩
  go_wp2_with fail
  refine (wn.out _).mono ?_
  rintro e w2 ⟨rfl, rfl⟩
  go_wp2_with fail
  go_ret2
  exact ⟨rfl, hb1⟩

set_option maxRecDepth 100000 in
set_option maxHeartbeats 1000000 in
theorem rem_e1 (A : Option Addr) (c : Nat) (xs : List Sp) (at_ n : Int) (w : World) (hr : Rd w w.heap.size A xs) (hl : xs.length ≤ 2000000000) (h0 : chk xs ≠ 0) :
    Calls Try.prog 26 #[.slice A xs.length c, .int .i64 at_, .int .i64 n] w fun e w' => e = .returned (.tuple #[.slice none 0 0, .int .i64 (chk xs)]) ∧ Below w.heap.size w w' := by
  have h0' : (chk xs != 0) = true := by simpa using h0
  clear h0
  go_enter Try.func26, Try.ntmps26
  go_wp2_with fail
  refine (check_any _ _ _ _ hr (by omega)).mono ?_
  rintro e w1 ⟨rfl, hb1⟩
  go_wp2_with fail
  go_ret2
  exact ⟨rfl, hb1⟩

set_option maxRecDepth 100000 in
set_option maxHeartbeats 1000000 in
theorem rem_e2 (A : Option Addr) (c : Nat) (xs : List Sp) (at_ n : Int) (w : World) (hr : Rd w w.heap.size A xs) (hl : xs.length ≤ 2000000000) (h0 : chk xs = 0) (ha : okP at_ = false) :
    Calls Try.prog 26 #[.slice A xs.length c, .int .i64 at_, .int .i64 n] w fun e w' => e = .returned (.tuple #[.slice none 0 0, .int .i64 4]) ∧ Below w.heap.size w w' := by
  have h0' : (chk xs != 0) = false := by rw [h0]; rfl
  clear h0
  have wa : Hid (∀ W, Calls Try.prog 38 #[.int .i64 at_] W fun e w' => e = .returned (.bool false) ∧ W = w') := fun W => (within_any at_ W).mono (by rw [ha]; exact fun _ _ h => h)
  clear ha
  go_enter Try.func26, Try.ntmps26
  go_wp2_with fail
  refine (check_any _ _ _ _ hr (by omega)).mono ?_
  rintro e w1 ⟨rfl, hb1⟩
  go_wp2_with fail
  refine (wa.out _).mono ?_
  rintro e w2 ⟨rfl, rfl⟩
  go_wp2_with fail
  go_ret2
  exact ⟨rfl, hb1⟩

set_option maxRecDepth 100000 in
set_option maxHeartbeats 1000000 in
theorem rem_e3 (A : Option Addr) (c : Nat) (xs : List Sp) (at_ n : Int) (w : World) (hr : Rd w w.heap.size A xs) (hl : xs.length ≤ 2000000000) (h0 : chk xs = 0) (ha : okP at_ = true) (hn : okP n = false) :
    Calls Try.prog 26 #[.slice A xs.length c, .int .i64 at_, .int .i64 n] w fun e w' => e = .returned (.tuple #[.slice none 0 0, .int .i64 4]) ∧ Below w.heap.size w w' := by
  have h0' : (chk xs != 0) = false := by rw [h0]; rfl
  clear h0
  have wa : Hid (∀ W, Calls Try.prog 38 #[.int .i64 at_] W fun e w' => e = .returned (.bool true) ∧ W = w') := fun W => (within_any at_ W).mono (by rw [ha]; exact fun _ _ h => h)
  have wn : Hid (∀ W, Calls Try.prog 38 #[.int .i64 n] W fun e w' => e = .returned (.bool false) ∧ W = w') := fun W => (within_any n W).mono (by rw [hn]; exact fun _ _ h => h)
  clear ha hn
  go_enter Try.func26, Try.ntmps26
  go_wp2_with fail
  refine (check_any _ _ _ _ hr (by omega)).mono ?_
  rintro e w1 ⟨rfl, hb1⟩
  go_wp2_with fail
  refine (wa.out _).mono ?_
  rintro e w2 ⟨rfl, rfl⟩
  go_wp2_with fail
  refine (wn.out _).mono ?_
  rintro e w2 ⟨rfl, rfl⟩
  go_wp2_with fail
  go_ret2
  exact ⟨rfl, hb1⟩

set_option maxRecDepth 100000 in
set_option maxHeartbeats 1000000 in
theorem ins_e4 (b o : Nat) (c : Nat) (xs : List Sp) (at_ n ee : Int) (w : World) (hr : Rd w w.heap.size (some ⟨b, o, none⟩) xs) (h0 : chk xs = 0) (ha0 : 0 ≤ at_) (ha1 : at_ ≤ 1073741824) (hn0 : 0 ≤ n) (hn1 : n ≤ 1073741824)
    (hpos : 0 < xs.length) (hbl : b < w.heap.size) (c1 : w.cell? ⟨b, o + (xs.length - 1) * 2 + 1, none⟩ = some (.int .i64 ee)) (hz : at_ < ee) (hroom : 1073741824 < ee + n) :
    Calls Try.prog 25 #[.slice (some ⟨b, o, none⟩) xs.length c, .int .i64 at_, .int .i64 n] w fun e w' => e = .returned (.tuple #[.slice none 0 0, .int .i64 4]) ∧ Below w.heap.size w w' := by
  have hlen := chk_len h0
  have h0' : (chk xs != 0) = false := by rw [h0]; rfl
  have wa : Hid (∀ W, Calls Try.prog 38 #[.int .i64 at_] W fun e w' => e = .returned (.bool true) ∧ W = w') := fun W => (within_any at_ W).mono (by rw [okP_t ha0 ha1]; exact fun _ _ h => h)
  have wn : Hid (∀ W, Calls Try.prog 38 #[.int .i64 n] W fun e w' => e = .returned (.bool true) ∧ W = w') := fun W => (within_any n W).mono (by rw [okP_t hn0 hn1]; exact fun _ _ h => h)
  clear h0
  have hx0 : (0 : Int) ≤ (xs.length : Int) - 1 := by omega
  have hx1 : (xs.length : Int) - 1 < (xs.length : Int) := by omega
  have hd1 : decide ((1 : Int) ≤ (xs.length : Int)) = true := by simp; omega
  have hd2 : decide (1 ≤ xs.length) = true := by simp; omega
  have hd3 : decide (at_ < ee) = true := by simp; omega
  have hd4 : decide (1073741824 - n < ee) = true := by simp; omega
  go_enter Try.func25, Try.ntmps25
  go_wp2_with fail
  refine (check_any _ _ _ _ hr (by omega)).mono ?_
  rintro e w1 ⟨rfl, hb1⟩
  have c1' := (hb1.cell (p := ⟨b, o + (xs.length - 1) * 2 + 1, none⟩) hbl).trans c1
  clear c1
  go_wp2_with fail
  refine (wa.out _).mono ?_
  rintro e w2 ⟨rfl, rfl⟩
  go_wp2_with fail
  refine (wn.out _).mono ?_
  rintro e w2 ⟨rfl, rfl⟩
  go_wp2_with fail
  go_ret2
  exact ⟨rfl, hb1⟩
theorem okP_le {x : Int} (h : okP x = true) : 0 ≤ x ∧ x ≤ 1073741824 := of_decide_eq_true h
theorem rem_any (A : Option Addr) (c : Nat) (xs : List Sp) (at_ n : Int) (w : World) (hr : Rd w w.heap.size A xs) (hl : xs.length ≤ 2000000000) :
    Calls Try.prog 26 #[.slice A xs.length c, .int .i64 at_, .int .i64 n] w fun e w' => OpRes (rmC xs at_ n) (remM xs at_ n) e w' ∧ Below w.heap.size w w' := by
  unfold rmC
  by_cases h0 : chk xs = 0
  · rw [if_pos h0]
    by_cases ha : okP at_ = true
    · by_cases hn : okP n = true
      · rw [if_pos ⟨ha, hn⟩]
        obtain ⟨a0, a1⟩ := okP_le ha
        obtain ⟨n0, n1⟩ := okP_le hn
        exact (rem_ok A c xs at_ n w hr h0 a0 a1 n0 n1).mono fun e w' ⟨h1, h2⟩ => ⟨.inl ⟨rfl, h1⟩, h2⟩
      · rw [if_neg (fun h => hn h.2)]
        exact (rem_e3 A c xs at_ n w hr hl h0 ha (Bool.eq_false_iff.2 hn)).mono fun e w' ⟨h1, h2⟩ => ⟨.inr ⟨by decide, h1⟩, h2⟩
    · rw [if_neg (fun h => ha h.1)]
      exact (rem_e2 A c xs at_ n w hr hl h0 (Bool.eq_false_iff.2 ha)).mono fun e w' ⟨h1, h2⟩ => ⟨.inr ⟨by decide, h1⟩, h2⟩
  · rw [if_neg h0]
    exact (rem_e1 A c xs at_ n w hr hl h0).mono fun e w' ⟨h1, h2⟩ => ⟨.inr ⟨h0, h1⟩, h2⟩
theorem ins_any (A : Option Addr) (c : Nat) (xs : List Sp) (at_ n : Int) (w : World) (hr : Rd w w.heap.size A xs) (hl : xs.length ≤ 2000000000) :
    Calls Try.prog 25 #[.slice A xs.length c, .int .i64 at_, .int .i64 n] w fun e w' => OpRes (inC xs at_ n) (insM xs at_ n) e w' ∧ Below w.heap.size w w' := by
  unfold inC
  by_cases h0 : chk xs = 0
  · rw [if_pos h0]
    by_cases ha : okP at_ = true
    · by_cases hn : okP n = true
      · rw [if_pos ⟨ha, hn⟩]
        obtain ⟨a0, a1⟩ := okP_le ha
        obtain ⟨n0, n1⟩ := okP_le hn
        by_cases hroom : endOf (-1) xs ≤ at_ ∨ endOf (-1) xs + n ≤ 1073741824
        · rw [if_pos hroom]
          exact (ins_ok A c xs at_ n w hr h0 a0 a1 n0 n1 hroom).mono fun e w' ⟨h1, h2⟩ => ⟨.inl ⟨rfl, h1⟩, h2⟩
        · rw [if_neg hroom]
          have hpos : 0 < xs.length := by
            rcases Nat.eq_zero_or_pos xs.length with h | h
            · obtain rfl := List.eq_nil_of_length_eq_zero h
              exact absurd (.inl (show endOf (-1) [] ≤ at_ by show (-1 : Int) ≤ at_; omega)) hroom
            · exact h
          obtain ⟨b, o, rfl, hbl, c0, c1⟩ := hr (xs.length - 1) (by omega)
          rw [end_last (l := -1) hpos] at c1
          exact (ins_e4 b o c xs at_ n _ w hr h0 a0 a1 n0 n1 hpos hbl c1 (by omega) (by omega)).mono fun e w' ⟨h1, h2⟩ => ⟨.inr ⟨by decide, h1⟩, h2⟩
      · rw [if_neg (fun h => hn h.2)]
        exact (ins_e3 A c xs at_ n w hr hl h0 ha (Bool.eq_false_iff.2 hn)).mono fun e w' ⟨h1, h2⟩ => ⟨.inr ⟨by decide, h1⟩, h2⟩
    · rw [if_neg (fun h => ha h.1)]
      exact (ins_e2 A c xs at_ n w hr hl h0 (Bool.eq_false_iff.2 ha)).mono fun e w' ⟨h1, h2⟩ => ⟨.inr ⟨by decide, h1⟩, h2⟩
  · rw [if_neg h0]
    exact (ins_e1 A c xs at_ n w hr hl h0).mono fun e w' ⟨h1, h2⟩ => ⟨.inr ⟨h0, h1⟩, h2⟩
/-- a set of places, or the error of a place that is none -/
def ofC (zs : List Int) : Int := if zs.all (fun z => decide (0 ≤ z ∧ z < 1073741824)) then 0 else 4
theorem ofC_t {zs : List Int} (h : InR zs) : ofC zs = 0 := if_pos (by simpa [InR] using h)
theorem ofC_f {zs : List Int} (h : ¬ InR zs) : ofC zs = 4 := if_neg (by simpa [InR] using h)
theorem ofF_any (hS : SortsOk) (A : Option Addr) (c : Nat) (zs : List Int) (w : World) (hr : RdI w w.heap.size A zs) (hl : zs.length ≤ 1000000) :
    Calls Try.prog 16 #[.slice A zs.length c] w fun e w' => OpRes (ofC zs) (fun i => decide (i ∈ zs)) e w' ∧ Below w.heap.size w w' := by
  rcases Nat.eq_zero_or_pos zs.length with h0 | h0
  · obtain rfl := List.eq_nil_of_length_eq_zero h0
    exact (of_nil hS A c w hr).mono fun e w' ⟨h1, h2⟩ => ⟨.inl ⟨rfl, h1⟩, h2⟩
  · by_cases hR : InR zs
    · exact (of_ok hS A c zs w hr h0 hl hR).mono fun e w' ⟨h1, h2⟩ => ⟨.inl ⟨ofC_t hR, h1⟩, h2⟩
    · exact (of_bad hS A c zs w hr h0 hl hR).mono fun e w' ⟨h1, h2⟩ => ⟨.inr ⟨by rw [ofC_f hR]; decide, by rw [ofC_f hR]; exact h1⟩, h2⟩
end Go.Proofs.Ytbkfebnggomhdaa
