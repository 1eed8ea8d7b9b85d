/- Walks of the tree's methods that only read: At, Total, Find. -/
import Derived.Test.YtfkjnepafgehiaaFBase
import Derived.Test.YtfkjnepafgehiaaFShelf
import Derived.IntWalk
namespace Go.Proofs.Ytfkjnepafgehiaa
open Go.RowKit

theorem low_at (x : Int) (k : Nat) (e0 : x = k) (h : k ≤ 100000) (w : World) : Calls Try.prog 44 #[.int .i64 x] w fun e w' => e = .returned (.int .i64 (lowN k)) ∧ w' = w := by
  subst e0
  exact (low_any k w h).mono fun _ _ h => ⟨h.1, h.2.symm⟩

theorem at_none {w : World} {p : Option Addr} (i : Int) (h : NoTree w p) : Calls Try.prog 17 #[.pointer p, .int .i64 i] w fun e w' => e = .returned (.tuple #[.int .i64 0, .int .i64 2]) ∧ ∃ n, w' = w.drewN n := by
  have hi := isNone_none h
  clear h
  go_enter Try.func17, Try.ntmps17
  go_wp2_with (go_at_call 42; refine hi.mono ?_; rintro e w' ⟨rfl, rfl⟩)
  go_ret2
  exact ⟨rfl, 0, rfl⟩
theorem at_out {w : World} {b S : Nat} {l s : List Int} (h : Tr w b S l s) (i : Int) (ho : i < 0 ∨ (l.length : Int) ≤ i) :
    Calls Try.prog 17 #[.pointer (some ⟨b, 0, none⟩), .int .i64 i] w fun e w' => e = .returned (.tuple #[.int .i64 0, .int .i64 4]) ∧ ∃ n, w' = w.drewN n := by
  have hi := isNone_tree h
  have hl := len_tree h
  have hn := h.vd.len
  clear h
  rcases ho with ho | ho
  · go_enter Try.func17, Try.ntmps17
    go_wp2_with (go_at_call 42; refine hi.mono ?_; rintro e w' ⟨rfl, rfl⟩)
    go_ret2
    exact ⟨rfl, 0, rfl⟩
  · have hp : ¬ i < 0 := by omega
    go_enter Try.func17, Try.ntmps17
    go_wp2_with (first | (go_at_call 42; refine hi.mono ?_; rintro e w' ⟨rfl, rfl⟩) | (go_at_call 15; refine hl.mono ?_; rintro e w' ⟨rfl, rfl⟩))
    go_ret2
    exact ⟨rfl, 0, rfl⟩
set_option maxHeartbeats 1000000 in
theorem at_tree {w : World} {b S : Nat} {l s : List Int} (h : Tr w b S l s) (i : Nat) (hin : i < l.length) :
    Calls Try.prog 17 #[.pointer (some ⟨b, 0, none⟩), .int .i64 i] w fun e w' => e = .returned (.tuple #[.int .i64 l[i], .int .i64 0]) ∧ ∃ n, w' = w.drewN n := by
  have hi := isNone_tree h
  have hl := len_tree h
  have hn := h.vd.len
  have hc := cell_of_one h.box
  have H : Hid (Tr w b S l s) := Lib.hid h
  have hs0 : i + 1 < s.length := by rw [h.fen.len]; omega
  have hcell0 := h.cell (i + 1) hs0
  have hle0 := lowN_le (i + 1)
  have hlo0 := lowN_pos (k := i + 1) (by omega)
  have HV0 : Hid (s[i + 1] = pre l (i + 1) - pre l (i + 1 - lowN (i + 1))) := Lib.hid (h.fen.at_ (i + 1) hs0 (by omega))
  have HL : Hid (∀ W, Calls Try.prog 44 #[.int .i64 ((i : Int) + 1)] W fun e w' => e = .returned (.int .i64 (lowN (i + 1))) ∧ w' = W) := Lib.hid (fun W => low_at _ (i + 1) (by omega) (by omega) W)
  have HD : Hid (∀ n, i + 1 - lowN (i + 1) < n → n ≤ i → i + 1 - lowN (i + 1) ≤ n - lowN n) := Lib.hid (fun n h1 h2 => low_down h1 (by omega))
  have HE : Hid (pre l (i + 1) = pre l i + l[i]) := Lib.hid (pre_succ hin)
  have d1 : decide ((i : Int) < 0) = false := by simp
  have d2 : decide (l.length ≤ i) = false := by simp; omega
  have a1 : IntKind.i64.wrap ((i : Int) + 1) = i + 1 := IntWalk.i64_in _ (by omega)
  have a2 : (0 : Int) ≤ (i : Int) + 1 := by omega
  have a3 : ((i : Int) + 1).toNat = i + 1 := by omega
  have a4 : IntKind.i64.wrap ((i : Int) + 1 - lowN (i + 1)) = (i : Int) + 1 - lowN (i + 1) := IntWalk.i64_in _ (by omega)
  clear h
  generalize hd : lowN (i + 1) = d at *
  generalize s[i + 1] = v0 at *
  clear hd
  go_enter Try.func17, Try.ntmps17
  go_wp2_with (first | (go_at_call 42; refine hi.mono ?_; rintro e w' ⟨rfl, rfl⟩) | (go_at_call 15; refine hl.mono ?_; rintro e w' ⟨rfl, rfl⟩))
  go_quiet ((go_at_call 44; exact Calls.quiet_of_same (HL.out _)))
  go_wp2
  clear a1 a2 a3 a4 hcell0
  go_loop [6, 8] (fun a k => ∃ (n : Nat) (x : Int), n ≤ i ∧ i + 1 - d ≤ n ∧ k = .int .i64 n ∧ a = .int .i64 x ∧ Hid (x = pre l (i + 1) - pre l (i + 1 - d) - (pre l i - pre l n))) (fun _ k => (intOf k).toNat)
  case atStart => exact ⟨i, v0, Nat.le_refl _, by omega, rfl, rfl, Lib.hid (by have := HV0.out; omega)⟩
  case round =>
    obtain ⟨n, x, hni, hnf, rfl, rfl, HX⟩ := hrel
    by_cases hpos : i + 1 - d < n
    · have hs : n < s.length := by rw [H.out.fen.len]; omega
      have hcell := H.out.cell n hs
      have hv := H.out.fen.at_ n hs (by omega)
      have hle := lowN_le n
      have hlo := lowN_pos (k := n) (by omega)
      have hdn := HD.out n hpos hni
      have hlow : Hid (∀ W, Calls Try.prog 44 #[.int .i64 n] W fun e w' => e = .returned (.int .i64 (lowN n)) ∧ W = w') := Lib.hid (fun W => low_any n W (by omega))
      have b1 := H.out.vd.mono (a := n - lowN n) (b := n) (by omega)
      have b2 := H.out.vd.mono hni
      have b3 := H.out.vd.hi i
      have b4 := H.out.vd.lo (n - lowN n)
      have b5 := H.out.vd.hi n
      have b6 := H.out.vd.mono hdn
      have b7 := H.out.vd.hi (i + 1)
      have b8 := H.out.vd.lo (i + 1 - d)
      have b9 := H.out.vd.mono (a := i) (b := i + 1) (by omega)
      have HV : Hid (s[n] = pre l n - pre l (n - lowN n)) := Lib.hid hv
      have hx0 : 0 ≤ x ∧ x ≤ 4611686018427387904 := by have := HX.out; omega
      have hv0 : 0 ≤ s[n] ∧ s[n] ≤ 4611686018427387904 := by have := HV.out; omega
      have hxv : 0 ≤ x - s[n] := by have := HX.out; have := HV.out; omega
      clear hv b1 b2 b3 b4 b5 b6 b7 b8 b9
      generalize s[n] = v at *
      generalize lowN n = c at *
      go_wp2_with (go_at_call 44; refine (hlow.out _).mono ?_; rintro e w' ⟨rfl, rfl⟩)
      go_round
      case rel => exact ⟨n - c, x - v, by omega, hdn, by go_num, rfl, Lib.hid (by have := HX.out; have := HV.out; omega)⟩
      case measure => simp [intOf]; omega
    · obtain rfl : n = i + 1 - d := by omega
      obtain rfl : x = l[i] := by have := HX.out; have := HE.out; omega
      clear HX
      go_wp2
      go_ret2
      exact ⟨rfl, _, rfl⟩

theorem total_tree {w : World} {b S : Nat} {l s : List Int} (h : Tr w b S l s) : Calls Try.prog 45 #[.pointer (some ⟨b, 0, none⟩)] w fun e w' => e = .returned (.int .i64 (pre l l.length)) ∧ w = w' := by
  have hl := len_tree h
  have hs := sum_tree h l.length (Nat.le_refl _)
  clear h
  go_enter Try.func45, Try.ntmps45
  go_wp2_with (first | (go_at_call 15; refine hl.mono ?_; rintro e w' ⟨rfl, rfl⟩) | (go_at_call 19; refine hs.mono ?_; rintro e w' ⟨rfl, rfl⟩))
  go_ret
  exact ⟨rfl, rfl⟩
theorem total_none {w : World} {p : Option Addr} (h : NoTree w p) : Calls Try.prog 45 #[.pointer p] w fun e w' => e = .returned (.int .i64 0) ∧ w = w' := by
  have hl := len_none h
  have hs := sum_none 0 h
  clear h
  go_enter Try.func45, Try.ntmps45
  go_wp2_with (first | (go_at_call 15; refine hl.mono ?_; rintro e w' ⟨rfl, rfl⟩) | (go_at_call 19; refine hs.mono ?_; rintro e w' ⟨rfl, rfl⟩))
  go_ret
  exact ⟨rfl, rfl⟩

theorem find_none {w : World} {p : Option Addr} (x : Int) (h : NoTree w p) : Calls Try.prog 21 #[.pointer p, .int .i64 x] w fun e w' => e = .returned (.tuple #[.int .i64 0, .int .i64 0, .int .i64 2]) ∧ w = w' := by
  have hi := isNone_none h
  clear h
  go_enter Try.func21, Try.ntmps21
  go_wp2_with fail
  go_step3
  go_wp2_with (go_at_call 42; refine hi.mono ?_; rintro e w' ⟨rfl, rfl⟩)
  try rw [Exit.noGoto_ret]
  go_ret3
  exact ⟨rfl, rfl⟩
theorem find_out {w : World} {b S : Nat} {l s : List Int} (h : Tr w b S l s) (x : Int) (ho : x < 0 ∨ pre l l.length ≤ x) :
    Calls Try.prog 21 #[.pointer (some ⟨b, 0, none⟩), .int .i64 x] w fun e w' => e = .returned (.tuple #[.int .i64 0, .int .i64 0, .int .i64 4]) ∧ w = w' := by
  have hi := isNone_tree h
  have ht := total_tree h
  have hp0 := h.vd.lo l.length
  clear h
  generalize pre l l.length = t at *
  rcases ho with ho | ho
  · go_enter Try.func21, Try.ntmps21
    go_wp2_with fail
    go_step3
    go_wp2_with (go_at_call 42; refine hi.mono ?_; rintro e w' ⟨rfl, rfl⟩)
    try rw [Exit.noGoto_ret]
    go_ret3
    exact ⟨rfl, rfl⟩
  · have hp : ¬ x < 0 := by omega
    go_enter Try.func21, Try.ntmps21
    go_wp2_with fail
    go_step3
    go_wp2_with (first | (go_at_call 42; refine hi.mono ?_; rintro e w' ⟨rfl, rfl⟩) | (go_at_call 45; refine ht.mono ?_; rintro e w' ⟨rfl, rfl⟩))
    try rw [Exit.noGoto_ret]
    go_ret3
    exact ⟨rfl, rfl⟩

theorem bitLenAux_lt (f x : Nat) (h : x < 2 ^ f) : x < 2 ^ Lib.bitLenAux f x ∧ (0 < x → 2 ^ Lib.bitLenAux f x ≤ 2 * x) := by
  induction f generalizing x with
  | zero => simp at h; subst h; simp [Lib.bitLenAux]
  | succ f ih =>
    unfold Lib.bitLenAux
    by_cases h0 : x = 0
    · subst h0; simp
    · rw [if_neg h0]
      rw [Nat.pow_succ] at h
      have := ih (x / 2) (by omega)
      rw [Nat.add_comm, Nat.pow_succ]
      refine ⟨by omega, fun _ => ?_⟩
      by_cases h1 : x = 1
      · subst h1
        have : Lib.bitLenAux f (1 / 2) = 0 := by cases f <;> simp [Lib.bitLenAux]
        rw [this]; omega
      · have := this.2 (by omega)
        omega
theorem bitLen_lt (x : Nat) (h : x < 2 ^ 64) : x < 2 ^ Lib.bitLen x ∧ (0 < x → 2 ^ Lib.bitLen x ≤ 2 * x) := bitLenAux_lt 64 x h
theorem bitLen_pos {x : Nat} (h0 : 0 < x) (h : x < 2 ^ 64) : 0 < Lib.bitLen x := by
  rcases Nat.eq_zero_or_pos (Lib.bitLen x) with e | e
  · have := (bitLen_lt x h).1
    rw [e] at this
    simp at this
    omega
  · exact e
def Found (l : List Int) (x : Int) (w : World) (e : Ending) (w' : World) : Prop := ∃ i : Nat, Place l x i ∧ e = .returned (.tuple #[.int .i64 i, .int .i64 (x - pre l i), .int .i64 0]) ∧ w = w'
theorem half_pow {P : Nat} (h : ∃ p, P = 2 ^ p) : (P / 2 = 0 ∧ P = 1) ∨ ∃ j, P = 2 ^ (j + 1) ∧ P / 2 = 2 ^ j ∧ 0 < P / 2 := by
  obtain ⟨p, rfl⟩ := h
  cases p with
  | zero => exact .inl ⟨rfl, rfl⟩
  | succ j =>
    have : 0 < 2 ^ j := Nat.pos_of_ne_zero (by simp)
    exact .inr ⟨j, rfl, by rw [Nat.pow_succ]; omega, by rw [Nat.pow_succ]; omega⟩
set_option maxHeartbeats 2000000 in
theorem find_tree {w : World} {b S : Nat} {l s : List Int} (h : Tr w b S l s) (x : Int) (h0 : 0 ≤ x) (h1 : x < pre l l.length) :
    Calls Try.prog 21 #[.pointer (some ⟨b, 0, none⟩), .int .i64 x] w (Found l x w) := by
  have hi := isNone_tree h
  have hl := len_tree h
  have ht := total_tree h
  have hn := h.vd.len
  have hn0 : 0 < l.length := by
    rcases Nat.eq_zero_or_pos l.length with e | e
    · rw [e, pre_zero] at h1; omega
    · exact e
  have hc := cell_of_one h.box
  have H : Hid (Tr w b S l s) := Lib.hid h
  have hT := h.vd.hi l.length
  have hb1 := bitLen_lt l.length (by omega)
  have hb0 := bitLen_pos hn0 (by omega)
  obtain ⟨q, hq⟩ : ∃ q, Lib.bitLen l.length = q + 1 := ⟨Lib.bitLen l.length - 1, by omega⟩
  have HB : Hid (∀ W, Calls Try.prog 46 #[.int .u64 l.length] W fun e w' => e = .returned (.int .i64 ((q : Int) + 1)) ∧ W = w') := Lib.hid (fun W => by
    have := Try.bits_Len (l.length : Int) W (by omega) (by omega)
    rw [show ((l.length : Int)).toNat = l.length from by omega, hq] at this
    exact this.mono fun _ _ h => ⟨h.1, h.2.symm⟩)
  rw [hq] at hb1
  clear h hb0 hq
  have hq12 : q ≤ 12 := by
    rcases Nat.lt_or_ge 12 q with e | e
    · exfalso
      have h2 := hb1.2 hn0
      have := Nat.pow_le_pow_right (n := 2) (by omega) (show 14 ≤ q + 1 by omega)
      omega
    · exact e
  have d1 : decide (x < 0) = false := by simpa using h0
  have d2 : decide (pre l l.length ≤ x) = false := by simpa using h1
  have hT0 : (0 : Int) ≤ 0 := by omega
  go_enter Try.func21, Try.ntmps21
  go_wp2_with fail
  go_step3
  go_wp2_with (first | (go_at_call 42; refine hi.mono ?_; rintro e w' ⟨rfl, rfl⟩) | (go_at_call 45; refine ht.mono ?_; rintro e w' ⟨rfl, rfl⟩) | (go_at_call 15; refine hl.mono ?_; rintro e w' ⟨rfl, rfl⟩) | (go_at_call 46; refine (HB.out _).mono ?_; rintro e w' ⟨rfl, rfl⟩))
  go_step3
  go_wp2_with fail
  refine (HB.out _).mono ?_
  rintro e w' ⟨rfl, rfl⟩
  go_wp2_with fail
  have hp2 : (2 : Nat) ^ q ≤ 4096 := Nat.pow_le_pow_right (n := 2) (by omega) hq12
  obtain ⟨z, hz⟩ : ∃ z : Nat, z = 2 ^ q := ⟨_, rfl⟩
  have ew : wrap64 ((2 : Int) ^ q) = (z : Int) := by
    rw [show ((2 : Int) ^ q) = ((2 ^ q : Nat) : Int) from by simp, ← hz]
    rw [← hz] at hp2
    unfold wrap64; omega
  rw [ew]
  have HZ := Lib.hid hz
  have h64 : 2 ^ (q + 1) ≤ 8192 := by rw [Nat.pow_succ]; omega
  have hlt : l.length < 2 ^ (q + 1) := hb1.1
  have HX1 := Lib.hid h1
  clear hp2 ew hb1 hq12 d1 d2 h1 hz
  go_loop [4, 5, 8] (fun a r d => ∃ (i P : Nat), a = .int .i64 i ∧ r = .int .i64 (x - pre l i) ∧ d = .int .i64 (P / 2 : Nat) ∧ i ≤ l.length ∧ P ≤ 8192 ∧ Hid (∃ p, P = 2 ^ p) ∧ Hid (i % P = 0) ∧ Hid (pre l i ≤ x ∧ x < pre l (i + P))) (fun _ _ d => (intOf d).toNat)
  case atStart => exact ⟨0, 2 ^ (q + 1), rfl, by rw [pre_zero]; simp, by rw [show 2 ^ (q + 1) / 2 = z from by rw [HZ.out, Nat.pow_succ]; omega], Nat.zero_le _, h64, Lib.hid ⟨_, rfl⟩, Lib.hid (by simp), Lib.hid ⟨by rw [pre_zero]; exact h0, by rw [pre_ge (by omega)]; exact HX1.out⟩⟩
  case round =>
    obtain ⟨i, P, rfl, rfl, rfl, hil, hP, HP, HM, HI⟩ := hrel
    have b1 := H.out.vd.lo i
    have b2 := H.out.vd.hi i
    have hx9 : x ≤ 4611686018427387904 := by have := HX1.out; omega
    rcases half_pow HP.out with ⟨hz, hP1⟩ | ⟨j, hj1, hj2, hj3⟩
    · subst hP1
      have HPl : Hid (Place l x i) := Lib.hid ⟨by
        have := HI.out
        rcases Nat.lt_or_ge i l.length with e | e
        · exact e
        · rw [pre_ge (k := i + 1) (by omega), pre_ge (k := i) e] at this; omega, HI.out.1, HI.out.2⟩
      go_wp2_with fail
      try rw [Exit.noGoto_ret]
      go_ret3
      exact ⟨i, HPl.out, rfl, rfl⟩
    · rw [hj1] at HM
      have hls := low_step HM.out
      rw [← hj2] at hls
      have hPD : P = P / 2 + P / 2 := by rw [hj2, hj1, Nat.pow_succ]; omega
      have HP2 : Hid (∃ p, P / 2 = 2 ^ p) := Lib.hid ⟨j, hj2⟩
      have HLS : Hid (lowN (i + P / 2) = P / 2 ∧ (i + P / 2) % (P / 2) = 0 ∧ i % (P / 2) = 0) := Lib.hid hls
      have HI2 : Hid (pre l i ≤ x ∧ x < pre l (i + (P / 2 + P / 2))) := Lib.hid (by rw [← hPD]; exact HI.out)
      have hD8 : P / 2 ≤ 8192 := by omega
      clear hls HM HI HP hPD hj1 hj2 hP
      generalize P / 2 = D at *
      have hb0 : 0 ≤ x - pre l i ∧ x - pre l i ≤ 4611686018427387904 := by have := HI2.out; omega
      by_cases hnx : l.length < i + D
      · clear b1 b2 hx9
        generalize hr : x - pre l i = r at *
        go_wp2_with fail
        go_round
        case rel => exact ⟨i, D, rfl, by rw [hr], rfl, hil, hD8, HP2, Lib.hid HLS.out.2.2, Lib.hid ⟨HI2.out.1, by rw [pre_ge (by omega)]; exact HX1.out⟩⟩
        case measure => simp [intOf]; omega
      · have hs : i + D < s.length := by rw [H.out.fen.len]; omega
        have hcell := H.out.cell (i + D) hs
        have hv := H.out.fen.at_ (i + D) hs (by omega)
        unfold fen at hv
        rw [HLS.out.1, Nat.add_sub_cancel] at hv
        have HV := Lib.hid hv
        have b3 := H.out.vd.mono (a := i) (b := i + D) (by omega)
        have b4 := H.out.vd.hi (i + D)
        have hv0 : 0 ≤ s[i + D] ∧ s[i + D] ≤ 4611686018427387904 := by have := HV.out; omega
        clear b1 b2 b3 b4 hx9 hv
        have hnx2 : i + D ≤ l.length := by omega
        generalize s[i + D] = v at *
        generalize hr : x - pre l i = r at *
        have HR := Lib.hid hr
        clear hr
        by_cases hlt2 : r < v
        · go_wp2_with fail
          go_round
          case rel => exact ⟨i, D, rfl, by rw [HR.out], rfl, hil, hD8, HP2, Lib.hid HLS.out.2.2, Lib.hid ⟨HI2.out.1, by have := HV.out; have := HR.out; omega⟩⟩
          case measure => simp [intOf]; omega
        · go_wp2_with fail
          go_round
          case rel => exact ⟨i + D, D, by go_num, by rw [show x - pre l (i + D) = r - v by have := HV.out; have := HR.out; omega], rfl, hnx2, hD8, HP2, Lib.hid HLS.out.2.1, Lib.hid ⟨by have := HV.out; have := HR.out; omega, by have := HI2.out; rw [Nat.add_assoc]; exact this.2⟩⟩
          case measure => simp [intOf]; omega
end Go.Proofs.Ytfkjnepafgehiaa
