/- The walk of the law SpansErrors: . -/
import Derived.Test.YtbkfebnggomhdaaL5Aux
namespace Go.Proofs.Ytbkfebnggomhdaa
open Go.RowKit
set_option maxRecDepth 100000 in
set_option maxHeartbeats 8000000 in
theorem law5_Zroom0 (hL : Lives5) (A B : Option Addr) (ca cb : Nat) (xa xb : List Sp) (at_ n : Int) (w : World) (hra : Rd w w.heap.size A xa) (hrb : Rd w w.heap.size B xb) (hla : xa.length ≤ 40) (hlb : xb.length ≤ 40) (hca : xa.length ≤ ca) (hcb : xb.length ≤ cb) (hp : chk xa = 0) (hq : chk xb = 0) (h0 : 0 ≤ at_) (h1 : at_ ≤ 1073741824) (h2 : 0 ≤ n) (h3 : n ≤ 1073741824) (hpos : xa.length = 0) :
    Calls Try.prog 7 #[.slice A xa.length ca, .slice B xb.length cb, .agg #[.int .i64 at_, .int .i64 n]] w fun e w' => e = .returned (.bool true) ∧ Below w.heap.size w w' := by
  have HL := Lib.hid hL; clear hL
  have PA := Lib.hid (pairsC A ca xa (by omega))
  have PB := Lib.hid (pairsC B cb xb (by omega))
  have RA := Lib.hid (refC hp (by omega))
  have RB := Lib.hid (refC hq (by omega))
  have U := Lib.hid (opSet (A := A) (B := B) union_any hp hq hla hlb hca hcb)
  have C := Lib.hid (opSet (A := A) (B := B) common_any hp hq hla hlb hca hcb)
  have V := Lib.hid (opSet (A := A) (B := B) without_any hp hq hla hlb hca hcb)
  clear hq
  have hv := val_of_chk hp
  have hoo : okP at_ = true ∧ okP n = true := ⟨okP_t h0 h1, okP_t h2 h3⟩
  have hrc : rmC xa at_ n = 0 := by unfold rmC; rw [if_pos hp, if_pos hoo]
  have R0 : ∃ Lr, Val (-1) Lr ∧ Lr.length ≤ 80 ∧ sumB 0 Lr = sumB 0 xa - goneTo xa at_ (at_ + n) xa.length ∧ MvSet 26 A xa.length ca xa Lr Lr.length at_ n := by
    obtain ⟨Lr, hi, hl⟩ := rem_ex (a := at_) (n := n) hv h0 h1 h2 xa.length (Nat.le_refl _)
    have ho := hi.ho
    rw [List.take_length] at ho
    exact ⟨Lr, hi.vo, by omega, gone_all hv h0 h2 hi.vo ho, fun W hA => (rem_any A ca xa at_ n W hA (by omega)).mono fun e w' h => Made.of h hrc hi.vo (fun i => (ho i).symm) (by omega) rfl⟩
  obtain ⟨Lr, hvr, hlr, hsr, hR⟩ := R0
  have R := Lib.hid hR
  have CKr : Hid (∀ E W, Rd W W.heap.size E Lr → Calls Try.prog 12 #[.slice E Lr.length Lr.length] W fun e w' => e = .returned (.int .i64 0) ∧ Below W.heap.size W w') := fun E W h => check_at Lr h rfl (chk_of_val hvr (by omega)) (by omega)
  have CTr : Hid (∀ E W, Rd W W.heap.size E Lr → Calls Try.prog 15 #[.slice E Lr.length Lr.length] W fun e w' => e = .returned (.int .i64 (sumB 0 xa - goneTo xa at_ (at_ + n) xa.length)) ∧ Below W.heap.size W w') := fun E W h => count_at Lr h rfl (by rw [cnt_ok (chk_of_val hvr (by omega)), hsr]) (by omega)
  have CTa : Hid (∀ W, Rd W W.heap.size A xa → Calls Try.prog 15 #[.slice A xa.length ca] W fun e w' => e = .returned (.int .i64 (sumB 0 xa)) ∧ Below W.heap.size W w') := fun W h => count_at xa h rfl (cnt_ok hp) (by omega)
  have hroom : endOf (-1) xa ≤ at_ ∨ endOf (-1) xa + n ≤ 1073741824 := .inl (by obtain rfl := List.eq_nil_of_length_eq_zero hpos; show (-1 : Int) ≤ at_; omega)
  have hic : inC xa at_ n = 0 := by unfold inC; rw [if_pos hp, if_pos hoo, if_pos hroom]
  have I0 : ∃ Li, Val (-1) Li ∧ Li.length ≤ 80 ∧ sumB 0 Li = sumB 0 xa ∧ (∀ i, remM Li at_ n i = hasB xa i) ∧ MvSet 25 A xa.length ca xa Li Li.length at_ n := by
    obtain ⟨Li, hi, hl⟩ := ins_ex (a := at_) (n := n) hv h0 h2 hroom xa.length (Nat.le_refl _)
    have ho := hi.ho
    rw [List.take_length] at ho
    exact ⟨Li, hi.vo, by omega, ins_cnt hv h0 h2 hi.vo ho, back_same h2 ho, fun W hA => (ins_any A ca xa at_ n W hA (by omega)).mono fun e w' h => Made.of h hic hi.vo (fun i => (ho i).symm) (by omega) rfl⟩
  obtain ⟨Li, hvi, hli, hsi, hbk, hI⟩ := I0
  have I := Lib.hid hI
  have CKi : Hid (∀ E W, Rd W W.heap.size E Li → Calls Try.prog 12 #[.slice E Li.length Li.length] W fun e w' => e = .returned (.int .i64 0) ∧ Below W.heap.size W w') := fun E W h => check_at Li h rfl (chk_of_val hvi (by omega)) (by omega)
  have CTi : Hid (∀ E W, Rd W W.heap.size E Li → Calls Try.prog 15 #[.slice E Li.length Li.length] W fun e w' => e = .returned (.int .i64 (sumB 0 xa)) ∧ Below W.heap.size W w') := fun E W h => count_at Li h rfl (by rw [cnt_ok (chk_of_val hvi (by omega)), hsi]) (by omega)
  have BK : Hid (∀ E W, Rd W W.heap.size E Li → Calls Try.prog 26 #[.slice E Li.length Li.length, .int .i64 at_, .int .i64 n] W fun e w' => Made xa xa.length W e w') := fun E W h => rem_at Li xa h rfl (by omega) (by unfold rmC; rw [if_pos (chk_of_val hvi (by omega)), if_pos hoo]) hv hbk (by omega) rfl
  have SM : Hid (∀ E D d W, Rd W W.heap.size E xa → Rd W W.heap.size D xa → Calls Try.prog 17 #[.slice E xa.length xa.length, .int .i64 0, .slice D xa.length d, .int .i64 0] W fun e w' => e = .returned (.bool true) ∧ Below W.heap.size W w') := fun E D d W h h' => (same_any E _ xa 0 D d xa 0 W h h' (by omega) (by omega) (by omega)).mono fun e w' hh => ⟨by rw [hh.1]; exact ret_bool (sameB_t rfl rfl rfl), hh.2⟩
  generalize Li.length = ni at *
  clear hvi hli hsi hbk hI hroom hic
  have hga := goneTo_bd hv h0 h2
  have hsa : 0 ≤ sumB 0 xa ∧ sumB 0 xa ≤ 44023414784 := sum_bd hv
  have HV := Lib.hid hv
  have HGT := Lib.hid hga
  have hgl := hga xa.length (Nat.le_refl _)
  generalize hGG : goneTo xa at_ (at_ + n) xa.length = G at *
  have HG := Lib.hid hGG
  generalize sumB 0 xa = sa at *
  generalize Lr.length = nr at *
  clear hGG hv hoo hrc hvr hlr hsr hR hga hp
  have hna := Lib.hid hpos
  obtain rfl := List.eq_nil_of_length_eq_zero hpos
  simp only [List.length_nil] at *
  clear hpos
  have hb := below_allocN w (.cells #[.int .i64 at_, .int .i64 n] 51)
  replace hra := hra.next hb
  replace hrb := hrb.next hb
  have c0 := cell2_new0 w (.int .i64 at_) (.int .i64 n) 51
  have c1 := cell2_new1 w (.int .i64 at_) (.int .i64 n) 51
  have hz : w.heap.size < (w.alloc (.cells #[.int .i64 at_, .int .i64 n] 51)).heap.size := by simp
  go_enter Try.func7, Try.ntmps7
  go_wp2_with fail
  refine (PA.out _ hra).mono ?_
  rintro e w1 ⟨D1, e1, rfl, f1, r1, k1⟩
  replace hra := hra.next k1
  replace hrb := hrb.next k1
  replace c0 := (k1.cell (p := ⟨w.heap.size, 0, none⟩) hz).trans c0
  replace c1 := (k1.cell (p := ⟨w.heap.size, 1, none⟩) hz).trans c1
  replace hz := Nat.lt_of_lt_of_le hz k1.size
  replace hb := hb.trans (k1.mono hb.size)
  clear k1
  go_wp2_with fail
  refine (RA.out _ _ _ r1).mono ?_
  rintro e w2 ⟨rfl, k2⟩
  replace hra := hra.next k2
  replace hrb := hrb.next k2
  replace c0 := (k2.cell (p := ⟨w.heap.size, 0, none⟩) hz).trans c0
  replace c1 := (k2.cell (p := ⟨w.heap.size, 1, none⟩) hz).trans c1
  replace hz := Nat.lt_of_lt_of_le hz k2.size
  replace hb := hb.trans (k2.mono hb.size)
  clear k2
  clear r1 f1
  go_wp2_with fail
  refine (PB.out _ hrb).mono ?_
  rintro e w3 ⟨D2, e2, rfl, f2, r2, k3⟩
  replace hra := hra.next k3
  replace hrb := hrb.next k3
  replace c0 := (k3.cell (p := ⟨w.heap.size, 0, none⟩) hz).trans c0
  replace c1 := (k3.cell (p := ⟨w.heap.size, 1, none⟩) hz).trans c1
  replace hz := Nat.lt_of_lt_of_le hz k3.size
  replace hb := hb.trans (k3.mono hb.size)
  clear k3
  go_wp2_with fail
  refine (RB.out _ _ _ r2).mono ?_
  rintro e w4 ⟨rfl, k4⟩
  replace hra := hra.next k4
  replace hrb := hrb.next k4
  replace c0 := (k4.cell (p := ⟨w.heap.size, 0, none⟩) hz).trans c0
  replace c1 := (k4.cell (p := ⟨w.heap.size, 1, none⟩) hz).trans c1
  replace hz := Nat.lt_of_lt_of_le hz k4.size
  replace hb := hb.trans (k4.mono hb.size)
  clear k4
  clear r2 f2
  go_wp2_with fail
  refine (U.out _ hra hrb).mono ?_
  rintro e w5 ⟨⟨XU, nU, rfl⟩, k5⟩
  replace hra := hra.next k5
  replace hrb := hrb.next k5
  replace c0 := (k5.cell (p := ⟨w.heap.size, 0, none⟩) hz).trans c0
  replace c1 := (k5.cell (p := ⟨w.heap.size, 1, none⟩) hz).trans c1
  replace hz := Nat.lt_of_lt_of_le hz k5.size
  replace hb := hb.trans (k5.mono hb.size)
  clear k5
  go_wp2_with fail
  refine (C.out _ hra hrb).mono ?_
  rintro e w6 ⟨⟨XC, nC, rfl⟩, k6⟩
  replace hra := hra.next k6
  replace hrb := hrb.next k6
  replace c0 := (k6.cell (p := ⟨w.heap.size, 0, none⟩) hz).trans c0
  replace c1 := (k6.cell (p := ⟨w.heap.size, 1, none⟩) hz).trans c1
  replace hz := Nat.lt_of_lt_of_le hz k6.size
  replace hb := hb.trans (k6.mono hb.size)
  clear k6
  go_wp2_with fail
  refine (V.out _ hra hrb).mono ?_
  rintro e w7 ⟨⟨XV, nV, rfl⟩, k7⟩
  replace hra := hra.next k7
  replace hrb := hrb.next k7
  replace c0 := (k7.cell (p := ⟨w.heap.size, 0, none⟩) hz).trans c0
  replace c1 := (k7.cell (p := ⟨w.heap.size, 1, none⟩) hz).trans c1
  replace hz := Nat.lt_of_lt_of_le hz k7.size
  replace hb := hb.trans (k7.mono hb.size)
  clear k7
  go_wp2_with fail
  go_quiet (fail)
  clear hrb
  replace hra : Rd (w7.drewN nq) (w7.drewN nq).heap.size A [] := hra
  replace hb := below_drewN hb nq
  clear c0 c1 hz
  go_wp2_with fail
  refine (I.out _ hra).mono ?_
  rintro e w8 ⟨AI, rfl, hri, k8⟩
  replace hra := hra.next k8
  replace hb := hb.trans (k8.mono hb.size)
  clear k8
  go_wp2_with fail
  refine (R.out _ hra).mono ?_
  rintro e w9 ⟨AR, rfl, hrr, k9⟩
  replace hra := hra.next k9
  replace hri := hri.next k9
  replace hb := hb.trans (k9.mono hb.size)
  clear k9
  go_wp2_with fail
  go_loopw [22, 23] (fun ug uj wr => ug = .int .i64 0 ∧ uj = .int .i64 0 ∧ Below w.heap.size w wr ∧ Rd wr wr.heap.size A [] ∧ Rd wr wr.heap.size AR Lr ∧ Rd wr wr.heap.size AI Li) (fun _ _ _ => 0)
  case atStart => exact ⟨rfl, rfl, hb, hra, hrr, hri⟩
  case round =>
    obtain ⟨rfl, rfl, hbr, hra1, hrr1, hri1⟩ := hrel
    have hG0 : Hid (0 = G) := HG.out
    clear hb hra hrr hri
    have hb := hbr
    have hra := hra1
    have hrr := hrr1
    have hri := hri1
    clear hbr hra1 hrr1 hri1
    obtain rfl : 0 = G := hG0.out
    simp only [Int.sub_zero] at CTr
    go_wp2_with fail
    refine (CKr.out _ _ hrr).mono ?_
    rintro e w10 ⟨rfl, k10⟩
    replace hra := hra.next k10
    replace hrr := hrr.next k10
    replace hri := hri.next k10
    replace hb := hb.trans (k10.mono hb.size)
    clear k10
    go_wp2_with fail
    refine (CTr.out _ _ hrr).mono ?_
    rintro e w11 ⟨rfl, k11⟩
    replace hra := hra.next k11
    replace hrr := hrr.next k11
    replace hri := hri.next k11
    replace hb := hb.trans (k11.mono hb.size)
    clear k11
    go_wp2_with fail
    refine (CTa.out _ hra).mono ?_
    rintro e w12 ⟨rfl, k12⟩
    replace hra := hra.next k12
    replace hrr := hrr.next k12
    replace hri := hri.next k12
    replace hb := hb.trans (k12.mono hb.size)
    clear k12
    go_wp2_with fail
    refine (BK.out _ _ hri).mono ?_
    rintro e w13 ⟨AB, rfl, hrk, k13⟩
    replace hra := hra.next k13
    replace hrr := hrr.next k13
    replace hri := hri.next k13
    replace hb := hb.trans (k13.mono hb.size)
    clear k13
    go_wp2_with fail
    refine (CKi.out _ _ hri).mono ?_
    rintro e w14 ⟨rfl, k14⟩
    replace hra := hra.next k14
    replace hrr := hrr.next k14
    replace hri := hri.next k14
    replace hrk := hrk.next k14
    replace hb := hb.trans (k14.mono hb.size)
    clear k14
    go_wp2_with fail
    refine (CTi.out _ _ hri).mono ?_
    rintro e w15 ⟨rfl, k15⟩
    replace hra := hra.next k15
    replace hrr := hrr.next k15
    replace hri := hri.next k15
    replace hrk := hrk.next k15
    replace hb := hb.trans (k15.mono hb.size)
    clear k15
    go_wp2_with fail
    refine (CTa.out _ hra).mono ?_
    rintro e w16 ⟨rfl, k16⟩
    replace hra := hra.next k16
    replace hrr := hrr.next k16
    replace hri := hri.next k16
    replace hrk := hrk.next k16
    replace hb := hb.trans (k16.mono hb.size)
    clear k16
    go_wp2_with fail
    refine (PA.out _ hra).mono ?_
    rintro e w17 ⟨DP, dp, rfl, fp, rp, k17⟩
    replace hra := hra.next k17
    replace hrr := hrr.next k17
    replace hri := hri.next k17
    replace hrk := hrk.next k17
    replace hb := hb.trans (k17.mono hb.size)
    clear k17
    go_wp2_with fail
    refine (SM.out _ _ _ _ hrk rp).mono ?_
    rintro e w18 ⟨rfl, k18⟩
    replace hra := hra.next k18
    replace hrr := hrr.next k18
    replace hri := hri.next k18
    replace hrk := hrk.next k18
    replace rp := rp.next k18
    replace hb := hb.trans (k18.mono hb.size)
    clear k18
    go_wp2_with fail
    refine (HL.out _).mono ?_
    rintro e w19 ⟨rfl, k19⟩
    replace hra := hra.next k19
    replace hrr := hrr.next k19
    replace hri := hri.next k19
    replace hrk := hrk.next k19
    replace rp := rp.next k19
    replace hb := hb.trans (k19.mono hb.size)
    clear k19
    go_wp2_with fail
    go_ret
    exact ⟨rfl, hb⟩
end Go.Proofs.Ytbkfebnggomhdaa
