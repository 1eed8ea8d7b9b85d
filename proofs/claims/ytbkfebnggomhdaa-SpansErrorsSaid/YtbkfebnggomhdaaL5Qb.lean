/- The walk of the law SpansErrors: the second list is no set, a number is not allowed. -/
import Derived.Test.YtbkfebnggomhdaaL5Aux
namespace Go.Proofs.Ytbkfebnggomhdaa
open Go.RowKit
set_option maxRecDepth 100000 in
set_option maxHeartbeats 8000000 in
theorem law5_Qbad1 (hL : Lives5) (A B : Option Addr) (ca cb : Nat) (xa xb : List Sp) (at_ n q : Int) (w : World) (hra : Rd w w.heap.size A xa) (hrb : Rd w w.heap.size B xb) (hla : xa.length ≤ 40) (hlb : xb.length ≤ 40) (hca : xa.length ≤ ca) (hcb : xb.length ≤ cb) (hp : chk xa = 0) (hq : chk xb = q) (hq0 : q ≠ 0) (h1 : at_ < 0) :
    Calls Try.prog 7 #[.slice A xa.length ca, .slice B xb.length cb, .agg #[.int .i64 at_, .int .i64 n]] w fun e w' => e = .returned (.bool true) ∧ Below w.heap.size w w' := by
  have HL := Lib.hid hL; clear hL
  have PA := Lib.hid (pairsC A ca xa (by omega))
  have PB := Lib.hid (pairsC B cb xb (by omega))
  have RA := Lib.hid (refC hp (by omega))
  have RB := Lib.hid (refC hq (by omega))
  have hw : chk2 xa xb = q := by unfold chk2; rw [if_pos hp, hq]
  have U := Lib.hid (opErr (A := A) (B := B) union_any hw hq0 hla hlb hca hcb)
  have C := Lib.hid (opErr (A := A) (B := B) common_any hw hq0 hla hlb hca hcb)
  have V := Lib.hid (opErr (A := A) (B := B) without_any hw hq0 hla hlb hca hcb)
  have b2 : (q != 0) = true := by simpa using hq0
  have b3 : (q != q) = false := by simp
  clear hq hq0 hw
  have I := Lib.hid (insErr (A := A) (c := ca) (a := at_) (m := n) (k := 4) (by unfold inC; rw [if_pos hp, if_neg (fun h => by have := okP_le h.1; omega)]) (by decide) hla)
  have R := Lib.hid (remErr (A := A) (c := ca) (a := at_) (m := n) (k := 4) (by unfold rmC; rw [if_pos hp, if_neg (fun h => by have := okP_le h.1; omega)]) (by decide) hla)
  clear hp
  have hb := below_allocN w (.cells #[.int .i64 at_, .int .i64 n] 51)
  replace hra := hra.next hb
  replace hrb := hrb.next hb
  have c0 := cell2_new0 w (.int .i64 at_) (.int .i64 n) 51
  have c1 := cell2_new1 w (.int .i64 at_) (.int .i64 n) 51
  have hz : w.heap.size < (w.alloc (.cells #[.int .i64 at_, .int .i64 n] 51)).heap.size := by simp
  go_enter Try.func7, Try.ntmps7
  go_wp2_with fail
  refine (PA.out _ hra).mono ?_
  rintro e w1 ⟨D1, e1, rfl, f1, r1, k1⟩
  replace hra := hra.next k1
  replace hrb := hrb.next k1
  replace c0 := (k1.cell (p := ⟨w.heap.size, 0, none⟩) hz).trans c0
  replace c1 := (k1.cell (p := ⟨w.heap.size, 1, none⟩) hz).trans c1
  replace hz := Nat.lt_of_lt_of_le hz k1.size
  replace hb := hb.trans (k1.mono hb.size)
  clear k1
  go_wp2_with fail
  refine (RA.out _ _ _ r1).mono ?_
  rintro e w2 ⟨rfl, k2⟩
  replace hra := hra.next k2
  replace hrb := hrb.next k2
  replace c0 := (k2.cell (p := ⟨w.heap.size, 0, none⟩) hz).trans c0
  replace c1 := (k2.cell (p := ⟨w.heap.size, 1, none⟩) hz).trans c1
  replace hz := Nat.lt_of_lt_of_le hz k2.size
  replace hb := hb.trans (k2.mono hb.size)
  clear k2
  clear r1 f1
  go_wp2_with fail
  refine (PB.out _ hrb).mono ?_
  rintro e w3 ⟨D2, e2, rfl, f2, r2, k3⟩
  replace hra := hra.next k3
  replace hrb := hrb.next k3
  replace c0 := (k3.cell (p := ⟨w.heap.size, 0, none⟩) hz).trans c0
  replace c1 := (k3.cell (p := ⟨w.heap.size, 1, none⟩) hz).trans c1
  replace hz := Nat.lt_of_lt_of_le hz k3.size
  replace hb := hb.trans (k3.mono hb.size)
  clear k3
  go_wp2_with fail
  refine (RB.out _ _ _ r2).mono ?_
  rintro e w4 ⟨rfl, k4⟩
  replace hra := hra.next k4
  replace hrb := hrb.next k4
  replace c0 := (k4.cell (p := ⟨w.heap.size, 0, none⟩) hz).trans c0
  replace c1 := (k4.cell (p := ⟨w.heap.size, 1, none⟩) hz).trans c1
  replace hz := Nat.lt_of_lt_of_le hz k4.size
  replace hb := hb.trans (k4.mono hb.size)
  clear k4
  clear r2 f2
  go_wp2_with fail
  refine (U.out _ hra hrb).mono ?_
  rintro e w5 ⟨rfl, k5⟩
  replace hra := hra.next k5
  replace hrb := hrb.next k5
  replace c0 := (k5.cell (p := ⟨w.heap.size, 0, none⟩) hz).trans c0
  replace c1 := (k5.cell (p := ⟨w.heap.size, 1, none⟩) hz).trans c1
  replace hz := Nat.lt_of_lt_of_le hz k5.size
  replace hb := hb.trans (k5.mono hb.size)
  clear k5
  go_wp2_with fail
  refine (C.out _ hra hrb).mono ?_
  rintro e w6 ⟨rfl, k6⟩
  replace hra := hra.next k6
  replace hrb := hrb.next k6
  replace c0 := (k6.cell (p := ⟨w.heap.size, 0, none⟩) hz).trans c0
  replace c1 := (k6.cell (p := ⟨w.heap.size, 1, none⟩) hz).trans c1
  replace hz := Nat.lt_of_lt_of_le hz k6.size
  replace hb := hb.trans (k6.mono hb.size)
  clear k6
  go_wp2_with fail
  refine (V.out _ hra hrb).mono ?_
  rintro e w7 ⟨rfl, k7⟩
  replace hra := hra.next k7
  replace hrb := hrb.next k7
  replace c0 := (k7.cell (p := ⟨w.heap.size, 0, none⟩) hz).trans c0
  replace c1 := (k7.cell (p := ⟨w.heap.size, 1, none⟩) hz).trans c1
  replace hz := Nat.lt_of_lt_of_le hz k7.size
  replace hb := hb.trans (k7.mono hb.size)
  clear k7
  go_wp2_with fail
  go_quiet (fail)
  clear hrb
  replace hra : Rd (w7.drewN nq) (w7.drewN nq).heap.size A xa := hra
  replace hb := below_drewN hb nq
  clear c0 c1 hz
  go_wp2_with fail
  refine (I.out _ hra).mono ?_
  rintro e w8 ⟨rfl, k8⟩
  replace hra := hra.next k8
  replace hb := hb.trans (k8.mono hb.size)
  clear k8
  go_wp2_with fail
  refine (R.out _ hra).mono ?_
  rintro e w9 ⟨rfl, k9⟩
  replace hra := hra.next k9
  replace hb := hb.trans (k9.mono hb.size)
  clear k9
  go_wp2_with fail
  refine (same_nil 4).mono ?_
  rintro e w10 ⟨rfl, k10⟩
  replace hra := hra.next k10
  replace hb := hb.trans (k10.mono hb.size)
  clear k10
  go_wp2_with fail
  refine (same_nil 4).mono ?_
  rintro e w11 ⟨rfl, k11⟩
  replace hra := hra.next k11
  replace hb := hb.trans (k11.mono hb.size)
  clear k11
  go_wp2_with fail
  refine (HL.out _).mono ?_
  rintro e w12 ⟨rfl, k12⟩
  replace hra := hra.next k12
  replace hb := hb.trans (k12.mono hb.size)
  clear k12
  go_wp2_with fail
  go_ret
  exact ⟨rfl, hb⟩

set_option maxRecDepth 100000 in
set_option maxHeartbeats 8000000 in
theorem law5_Qbad2 (hL : Lives5) (A B : Option Addr) (ca cb : Nat) (xa xb : List Sp) (at_ n q : Int) (w : World) (hra : Rd w w.heap.size A xa) (hrb : Rd w w.heap.size B xb) (hla : xa.length ≤ 40) (hlb : xb.length ≤ 40) (hca : xa.length ≤ ca) (hcb : xb.length ≤ cb) (hp : chk xa = 0) (hq : chk xb = q) (hq0 : q ≠ 0) (h0 : 0 ≤ at_) (h1 : 1073741824 < at_) :
    Calls Try.prog 7 #[.slice A xa.length ca, .slice B xb.length cb, .agg #[.int .i64 at_, .int .i64 n]] w fun e w' => e = .returned (.bool true) ∧ Below w.heap.size w w' := by
  have HL := Lib.hid hL; clear hL
  have PA := Lib.hid (pairsC A ca xa (by omega))
  have PB := Lib.hid (pairsC B cb xb (by omega))
  have RA := Lib.hid (refC hp (by omega))
  have RB := Lib.hid (refC hq (by omega))
  have hw : chk2 xa xb = q := by unfold chk2; rw [if_pos hp, hq]
  have U := Lib.hid (opErr (A := A) (B := B) union_any hw hq0 hla hlb hca hcb)
  have C := Lib.hid (opErr (A := A) (B := B) common_any hw hq0 hla hlb hca hcb)
  have V := Lib.hid (opErr (A := A) (B := B) without_any hw hq0 hla hlb hca hcb)
  have b2 : (q != 0) = true := by simpa using hq0
  have b3 : (q != q) = false := by simp
  clear hq hq0 hw
  have I := Lib.hid (insErr (A := A) (c := ca) (a := at_) (m := n) (k := 4) (by unfold inC; rw [if_pos hp, if_neg (fun h => by have := okP_le h.1; omega)]) (by decide) hla)
  have R := Lib.hid (remErr (A := A) (c := ca) (a := at_) (m := n) (k := 4) (by unfold rmC; rw [if_pos hp, if_neg (fun h => by have := okP_le h.1; omega)]) (by decide) hla)
  clear hp
  have hb := below_allocN w (.cells #[.int .i64 at_, .int .i64 n] 51)
  replace hra := hra.next hb
  replace hrb := hrb.next hb
  have c0 := cell2_new0 w (.int .i64 at_) (.int .i64 n) 51
  have c1 := cell2_new1 w (.int .i64 at_) (.int .i64 n) 51
  have hz : w.heap.size < (w.alloc (.cells #[.int .i64 at_, .int .i64 n] 51)).heap.size := by simp
  go_enter Try.func7, Try.ntmps7
  go_wp2_with fail
  refine (PA.out _ hra).mono ?_
  rintro e w1 ⟨D1, e1, rfl, f1, r1, k1⟩
  replace hra := hra.next k1
  replace hrb := hrb.next k1
  replace c0 := (k1.cell (p := ⟨w.heap.size, 0, none⟩) hz).trans c0
  replace c1 := (k1.cell (p := ⟨w.heap.size, 1, none⟩) hz).trans c1
  replace hz := Nat.lt_of_lt_of_le hz k1.size
  replace hb := hb.trans (k1.mono hb.size)
  clear k1
  go_wp2_with fail
  refine (RA.out _ _ _ r1).mono ?_
  rintro e w2 ⟨rfl, k2⟩
  replace hra := hra.next k2
  replace hrb := hrb.next k2
  replace c0 := (k2.cell (p := ⟨w.heap.size, 0, none⟩) hz).trans c0
  replace c1 := (k2.cell (p := ⟨w.heap.size, 1, none⟩) hz).trans c1
  replace hz := Nat.lt_of_lt_of_le hz k2.size
  replace hb := hb.trans (k2.mono hb.size)
  clear k2
  clear r1 f1
  go_wp2_with fail
  refine (PB.out _ hrb).mono ?_
  rintro e w3 ⟨D2, e2, rfl, f2, r2, k3⟩
  replace hra := hra.next k3
  replace hrb := hrb.next k3
  replace c0 := (k3.cell (p := ⟨w.heap.size, 0, none⟩) hz).trans c0
  replace c1 := (k3.cell (p := ⟨w.heap.size, 1, none⟩) hz).trans c1
  replace hz := Nat.lt_of_lt_of_le hz k3.size
  replace hb := hb.trans (k3.mono hb.size)
  clear k3
  go_wp2_with fail
  refine (RB.out _ _ _ r2).mono ?_
  rintro e w4 ⟨rfl, k4⟩
  replace hra := hra.next k4
  replace hrb := hrb.next k4
  replace c0 := (k4.cell (p := ⟨w.heap.size, 0, none⟩) hz).trans c0
  replace c1 := (k4.cell (p := ⟨w.heap.size, 1, none⟩) hz).trans c1
  replace hz := Nat.lt_of_lt_of_le hz k4.size
  replace hb := hb.trans (k4.mono hb.size)
  clear k4
  clear r2 f2
  go_wp2_with fail
  refine (U.out _ hra hrb).mono ?_
  rintro e w5 ⟨rfl, k5⟩
  replace hra := hra.next k5
  replace hrb := hrb.next k5
  replace c0 := (k5.cell (p := ⟨w.heap.size, 0, none⟩) hz).trans c0
  replace c1 := (k5.cell (p := ⟨w.heap.size, 1, none⟩) hz).trans c1
  replace hz := Nat.lt_of_lt_of_le hz k5.size
  replace hb := hb.trans (k5.mono hb.size)
  clear k5
  go_wp2_with fail
  refine (C.out _ hra hrb).mono ?_
  rintro e w6 ⟨rfl, k6⟩
  replace hra := hra.next k6
  replace hrb := hrb.next k6
  replace c0 := (k6.cell (p := ⟨w.heap.size, 0, none⟩) hz).trans c0
  replace c1 := (k6.cell (p := ⟨w.heap.size, 1, none⟩) hz).trans c1
  replace hz := Nat.lt_of_lt_of_le hz k6.size
  replace hb := hb.trans (k6.mono hb.size)
  clear k6
  go_wp2_with fail
  refine (V.out _ hra hrb).mono ?_
  rintro e w7 ⟨rfl, k7⟩
  replace hra := hra.next k7
  replace hrb := hrb.next k7
  replace c0 := (k7.cell (p := ⟨w.heap.size, 0, none⟩) hz).trans c0
  replace c1 := (k7.cell (p := ⟨w.heap.size, 1, none⟩) hz).trans c1
  replace hz := Nat.lt_of_lt_of_le hz k7.size
  replace hb := hb.trans (k7.mono hb.size)
  clear k7
  go_wp2_with fail
  go_quiet (fail)
  clear hrb
  replace hra : Rd (w7.drewN nq) (w7.drewN nq).heap.size A xa := hra
  replace hb := below_drewN hb nq
  clear c0 c1 hz
  go_wp2_with fail
  refine (I.out _ hra).mono ?_
  rintro e w8 ⟨rfl, k8⟩
  replace hra := hra.next k8
  replace hb := hb.trans (k8.mono hb.size)
  clear k8
  go_wp2_with fail
  refine (R.out _ hra).mono ?_
  rintro e w9 ⟨rfl, k9⟩
  replace hra := hra.next k9
  replace hb := hb.trans (k9.mono hb.size)
  clear k9
  go_wp2_with fail
  refine (same_nil 4).mono ?_
  rintro e w10 ⟨rfl, k10⟩
  replace hra := hra.next k10
  replace hb := hb.trans (k10.mono hb.size)
  clear k10
  go_wp2_with fail
  refine (same_nil 4).mono ?_
  rintro e w11 ⟨rfl, k11⟩
  replace hra := hra.next k11
  replace hb := hb.trans (k11.mono hb.size)
  clear k11
  go_wp2_with fail
  refine (HL.out _).mono ?_
  rintro e w12 ⟨rfl, k12⟩
  replace hra := hra.next k12
  replace hb := hb.trans (k12.mono hb.size)
  clear k12
  go_wp2_with fail
  go_ret
  exact ⟨rfl, hb⟩

set_option maxRecDepth 100000 in
set_option maxHeartbeats 8000000 in
theorem law5_Qbad3 (hL : Lives5) (A B : Option Addr) (ca cb : Nat) (xa xb : List Sp) (at_ n q : Int) (w : World) (hra : Rd w w.heap.size A xa) (hrb : Rd w w.heap.size B xb) (hla : xa.length ≤ 40) (hlb : xb.length ≤ 40) (hca : xa.length ≤ ca) (hcb : xb.length ≤ cb) (hp : chk xa = 0) (hq : chk xb = q) (hq0 : q ≠ 0) (h0 : 0 ≤ at_) (h1 : at_ ≤ 1073741824) (h2 : n < 0) :
    Calls Try.prog 7 #[.slice A xa.length ca, .slice B xb.length cb, .agg #[.int .i64 at_, .int .i64 n]] w fun e w' => e = .returned (.bool true) ∧ Below w.heap.size w w' := by
  have HL := Lib.hid hL; clear hL
  have PA := Lib.hid (pairsC A ca xa (by omega))
  have PB := Lib.hid (pairsC B cb xb (by omega))
  have RA := Lib.hid (refC hp (by omega))
  have RB := Lib.hid (refC hq (by omega))
  have hw : chk2 xa xb = q := by unfold chk2; rw [if_pos hp, hq]
  have U := Lib.hid (opErr (A := A) (B := B) union_any hw hq0 hla hlb hca hcb)
  have C := Lib.hid (opErr (A := A) (B := B) common_any hw hq0 hla hlb hca hcb)
  have V := Lib.hid (opErr (A := A) (B := B) without_any hw hq0 hla hlb hca hcb)
  have b2 : (q != 0) = true := by simpa using hq0
  have b3 : (q != q) = false := by simp
  clear hq hq0 hw
  have I := Lib.hid (insErr (A := A) (c := ca) (a := at_) (m := n) (k := 4) (by unfold inC; rw [if_pos hp, if_neg (fun h => by have := okP_le h.2; omega)]) (by decide) hla)
  have R := Lib.hid (remErr (A := A) (c := ca) (a := at_) (m := n) (k := 4) (by unfold rmC; rw [if_pos hp, if_neg (fun h => by have := okP_le h.2; omega)]) (by decide) hla)
  clear hp
  have hb := below_allocN w (.cells #[.int .i64 at_, .int .i64 n] 51)
  replace hra := hra.next hb
  replace hrb := hrb.next hb
  have c0 := cell2_new0 w (.int .i64 at_) (.int .i64 n) 51
  have c1 := cell2_new1 w (.int .i64 at_) (.int .i64 n) 51
  have hz : w.heap.size < (w.alloc (.cells #[.int .i64 at_, .int .i64 n] 51)).heap.size := by simp
  go_enter Try.func7, Try.ntmps7
  go_wp2_with fail
  refine (PA.out _ hra).mono ?_
  rintro e w1 ⟨D1, e1, rfl, f1, r1, k1⟩
  replace hra := hra.next k1
  replace hrb := hrb.next k1
  replace c0 := (k1.cell (p := ⟨w.heap.size, 0, none⟩) hz).trans c0
  replace c1 := (k1.cell (p := ⟨w.heap.size, 1, none⟩) hz).trans c1
  replace hz := Nat.lt_of_lt_of_le hz k1.size
  replace hb := hb.trans (k1.mono hb.size)
  clear k1
  go_wp2_with fail
  refine (RA.out _ _ _ r1).mono ?_
  rintro e w2 ⟨rfl, k2⟩
  replace hra := hra.next k2
  replace hrb := hrb.next k2
  replace c0 := (k2.cell (p := ⟨w.heap.size, 0, none⟩) hz).trans c0
  replace c1 := (k2.cell (p := ⟨w.heap.size, 1, none⟩) hz).trans c1
  replace hz := Nat.lt_of_lt_of_le hz k2.size
  replace hb := hb.trans (k2.mono hb.size)
  clear k2
  clear r1 f1
  go_wp2_with fail
  refine (PB.out _ hrb).mono ?_
  rintro e w3 ⟨D2, e2, rfl, f2, r2, k3⟩
  replace hra := hra.next k3
  replace hrb := hrb.next k3
  replace c0 := (k3.cell (p := ⟨w.heap.size, 0, none⟩) hz).trans c0
  replace c1 := (k3.cell (p := ⟨w.heap.size, 1, none⟩) hz).trans c1
  replace hz := Nat.lt_of_lt_of_le hz k3.size
  replace hb := hb.trans (k3.mono hb.size)
  clear k3
  go_wp2_with fail
  refine (RB.out _ _ _ r2).mono ?_
  rintro e w4 ⟨rfl, k4⟩
  replace hra := hra.next k4
  replace hrb := hrb.next k4
  replace c0 := (k4.cell (p := ⟨w.heap.size, 0, none⟩) hz).trans c0
  replace c1 := (k4.cell (p := ⟨w.heap.size, 1, none⟩) hz).trans c1
  replace hz := Nat.lt_of_lt_of_le hz k4.size
  replace hb := hb.trans (k4.mono hb.size)
  clear k4
  clear r2 f2
  go_wp2_with fail
  refine (U.out _ hra hrb).mono ?_
  rintro e w5 ⟨rfl, k5⟩
  replace hra := hra.next k5
  replace hrb := hrb.next k5
  replace c0 := (k5.cell (p := ⟨w.heap.size, 0, none⟩) hz).trans c0
  replace c1 := (k5.cell (p := ⟨w.heap.size, 1, none⟩) hz).trans c1
  replace hz := Nat.lt_of_lt_of_le hz k5.size
  replace hb := hb.trans (k5.mono hb.size)
  clear k5
  go_wp2_with fail
  refine (C.out _ hra hrb).mono ?_
  rintro e w6 ⟨rfl, k6⟩
  replace hra := hra.next k6
  replace hrb := hrb.next k6
  replace c0 := (k6.cell (p := ⟨w.heap.size, 0, none⟩) hz).trans c0
  replace c1 := (k6.cell (p := ⟨w.heap.size, 1, none⟩) hz).trans c1
  replace hz := Nat.lt_of_lt_of_le hz k6.size
  replace hb := hb.trans (k6.mono hb.size)
  clear k6
  go_wp2_with fail
  refine (V.out _ hra hrb).mono ?_
  rintro e w7 ⟨rfl, k7⟩
  replace hra := hra.next k7
  replace hrb := hrb.next k7
  replace c0 := (k7.cell (p := ⟨w.heap.size, 0, none⟩) hz).trans c0
  replace c1 := (k7.cell (p := ⟨w.heap.size, 1, none⟩) hz).trans c1
  replace hz := Nat.lt_of_lt_of_le hz k7.size
  replace hb := hb.trans (k7.mono hb.size)
  clear k7
  go_wp2_with fail
  go_quiet (fail)
  clear hrb
  replace hra : Rd (w7.drewN nq) (w7.drewN nq).heap.size A xa := hra
  replace hb := below_drewN hb nq
  clear c0 c1 hz
  go_wp2_with fail
  refine (I.out _ hra).mono ?_
  rintro e w8 ⟨rfl, k8⟩
  replace hra := hra.next k8
  replace hb := hb.trans (k8.mono hb.size)
  clear k8
  go_wp2_with fail
  refine (R.out _ hra).mono ?_
  rintro e w9 ⟨rfl, k9⟩
  replace hra := hra.next k9
  replace hb := hb.trans (k9.mono hb.size)
  clear k9
  go_wp2_with fail
  refine (same_nil 4).mono ?_
  rintro e w10 ⟨rfl, k10⟩
  replace hra := hra.next k10
  replace hb := hb.trans (k10.mono hb.size)
  clear k10
  go_wp2_with fail
  refine (same_nil 4).mono ?_
  rintro e w11 ⟨rfl, k11⟩
  replace hra := hra.next k11
  replace hb := hb.trans (k11.mono hb.size)
  clear k11
  go_wp2_with fail
  refine (HL.out _).mono ?_
  rintro e w12 ⟨rfl, k12⟩
  replace hra := hra.next k12
  replace hb := hb.trans (k12.mono hb.size)
  clear k12
  go_wp2_with fail
  go_ret
  exact ⟨rfl, hb⟩

set_option maxRecDepth 100000 in
set_option maxHeartbeats 8000000 in
theorem law5_Qbad4 (hL : Lives5) (A B : Option Addr) (ca cb : Nat) (xa xb : List Sp) (at_ n q : Int) (w : World) (hra : Rd w w.heap.size A xa) (hrb : Rd w w.heap.size B xb) (hla : xa.length ≤ 40) (hlb : xb.length ≤ 40) (hca : xa.length ≤ ca) (hcb : xb.length ≤ cb) (hp : chk xa = 0) (hq : chk xb = q) (hq0 : q ≠ 0) (h0 : 0 ≤ at_) (h1 : at_ ≤ 1073741824) (h2 : 0 ≤ n) (h3 : 1073741824 < n) :
    Calls Try.prog 7 #[.slice A xa.length ca, .slice B xb.length cb, .agg #[.int .i64 at_, .int .i64 n]] w fun e w' => e = .returned (.bool true) ∧ Below w.heap.size w w' := by
  have HL := Lib.hid hL; clear hL
  have PA := Lib.hid (pairsC A ca xa (by omega))
  have PB := Lib.hid (pairsC B cb xb (by omega))
  have RA := Lib.hid (refC hp (by omega))
  have RB := Lib.hid (refC hq (by omega))
  have hw : chk2 xa xb = q := by unfold chk2; rw [if_pos hp, hq]
  have U := Lib.hid (opErr (A := A) (B := B) union_any hw hq0 hla hlb hca hcb)
  have C := Lib.hid (opErr (A := A) (B := B) common_any hw hq0 hla hlb hca hcb)
  have V := Lib.hid (opErr (A := A) (B := B) without_any hw hq0 hla hlb hca hcb)
  have b2 : (q != 0) = true := by simpa using hq0
  have b3 : (q != q) = false := by simp
  clear hq hq0 hw
  have I := Lib.hid (insErr (A := A) (c := ca) (a := at_) (m := n) (k := 4) (by unfold inC; rw [if_pos hp, if_neg (fun h => by have := okP_le h.2; omega)]) (by decide) hla)
  have R := Lib.hid (remErr (A := A) (c := ca) (a := at_) (m := n) (k := 4) (by unfold rmC; rw [if_pos hp, if_neg (fun h => by have := okP_le h.2; omega)]) (by decide) hla)
  clear hp
  have hb := below_allocN w (.cells #[.int .i64 at_, .int .i64 n] 51)
  replace hra := hra.next hb
  replace hrb := hrb.next hb
  have c0 := cell2_new0 w (.int .i64 at_) (.int .i64 n) 51
  have c1 := cell2_new1 w (.int .i64 at_) (.int .i64 n) 51
  have hz : w.heap.size < (w.alloc (.cells #[.int .i64 at_, .int .i64 n] 51)).heap.size := by simp
  go_enter Try.func7, Try.ntmps7
  go_wp2_with fail
  refine (PA.out _ hra).mono ?_
  rintro e w1 ⟨D1, e1, rfl, f1, r1, k1⟩
  replace hra := hra.next k1
  replace hrb := hrb.next k1
  replace c0 := (k1.cell (p := ⟨w.heap.size, 0, none⟩) hz).trans c0
  replace c1 := (k1.cell (p := ⟨w.heap.size, 1, none⟩) hz).trans c1
  replace hz := Nat.lt_of_lt_of_le hz k1.size
  replace hb := hb.trans (k1.mono hb.size)
  clear k1
  go_wp2_with fail
  refine (RA.out _ _ _ r1).mono ?_
  rintro e w2 ⟨rfl, k2⟩
  replace hra := hra.next k2
  replace hrb := hrb.next k2
  replace c0 := (k2.cell (p := ⟨w.heap.size, 0, none⟩) hz).trans c0
  replace c1 := (k2.cell (p := ⟨w.heap.size, 1, none⟩) hz).trans c1
  replace hz := Nat.lt_of_lt_of_le hz k2.size
  replace hb := hb.trans (k2.mono hb.size)
  clear k2
  clear r1 f1
  go_wp2_with fail
  refine (PB.out _ hrb).mono ?_
  rintro e w3 ⟨D2, e2, rfl, f2, r2, k3⟩
  replace hra := hra.next k3
  replace hrb := hrb.next k3
  replace c0 := (k3.cell (p := ⟨w.heap.size, 0, none⟩) hz).trans c0
  replace c1 := (k3.cell (p := ⟨w.heap.size, 1, none⟩) hz).trans c1
  replace hz := Nat.lt_of_lt_of_le hz k3.size
  replace hb := hb.trans (k3.mono hb.size)
  clear k3
  go_wp2_with fail
  refine (RB.out _ _ _ r2).mono ?_
  rintro e w4 ⟨rfl, k4⟩
  replace hra := hra.next k4
  replace hrb := hrb.next k4
  replace c0 := (k4.cell (p := ⟨w.heap.size, 0, none⟩) hz).trans c0
  replace c1 := (k4.cell (p := ⟨w.heap.size, 1, none⟩) hz).trans c1
  replace hz := Nat.lt_of_lt_of_le hz k4.size
  replace hb := hb.trans (k4.mono hb.size)
  clear k4
  clear r2 f2
  go_wp2_with fail
  refine (U.out _ hra hrb).mono ?_
  rintro e w5 ⟨rfl, k5⟩
  replace hra := hra.next k5
  replace hrb := hrb.next k5
  replace c0 := (k5.cell (p := ⟨w.heap.size, 0, none⟩) hz).trans c0
  replace c1 := (k5.cell (p := ⟨w.heap.size, 1, none⟩) hz).trans c1
  replace hz := Nat.lt_of_lt_of_le hz k5.size
  replace hb := hb.trans (k5.mono hb.size)
  clear k5
  go_wp2_with fail
  refine (C.out _ hra hrb).mono ?_
  rintro e w6 ⟨rfl, k6⟩
  replace hra := hra.next k6
  replace hrb := hrb.next k6
  replace c0 := (k6.cell (p := ⟨w.heap.size, 0, none⟩) hz).trans c0
  replace c1 := (k6.cell (p := ⟨w.heap.size, 1, none⟩) hz).trans c1
  replace hz := Nat.lt_of_lt_of_le hz k6.size
  replace hb := hb.trans (k6.mono hb.size)
  clear k6
  go_wp2_with fail
  refine (V.out _ hra hrb).mono ?_
  rintro e w7 ⟨rfl, k7⟩
  replace hra := hra.next k7
  replace hrb := hrb.next k7
  replace c0 := (k7.cell (p := ⟨w.heap.size, 0, none⟩) hz).trans c0
  replace c1 := (k7.cell (p := ⟨w.heap.size, 1, none⟩) hz).trans c1
  replace hz := Nat.lt_of_lt_of_le hz k7.size
  replace hb := hb.trans (k7.mono hb.size)
  clear k7
  go_wp2_with fail
  go_quiet (fail)
  clear hrb
  replace hra : Rd (w7.drewN nq) (w7.drewN nq).heap.size A xa := hra
  replace hb := below_drewN hb nq
  clear c0 c1 hz
  go_wp2_with fail
  refine (I.out _ hra).mono ?_
  rintro e w8 ⟨rfl, k8⟩
  replace hra := hra.next k8
  replace hb := hb.trans (k8.mono hb.size)
  clear k8
  go_wp2_with fail
  refine (R.out _ hra).mono ?_
  rintro e w9 ⟨rfl, k9⟩
  replace hra := hra.next k9
  replace hb := hb.trans (k9.mono hb.size)
  clear k9
  go_wp2_with fail
  refine (same_nil 4).mono ?_
  rintro e w10 ⟨rfl, k10⟩
  replace hra := hra.next k10
  replace hb := hb.trans (k10.mono hb.size)
  clear k10
  go_wp2_with fail
  refine (same_nil 4).mono ?_
  rintro e w11 ⟨rfl, k11⟩
  replace hra := hra.next k11
  replace hb := hb.trans (k11.mono hb.size)
  clear k11
  go_wp2_with fail
  refine (HL.out _).mono ?_
  rintro e w12 ⟨rfl, k12⟩
  replace hra := hra.next k12
  replace hb := hb.trans (k12.mono hb.size)
  clear k12
  go_wp2_with fail
  go_ret
  exact ⟨rfl, hb⟩
end Go.Proofs.Ytbkfebnggomhdaa
