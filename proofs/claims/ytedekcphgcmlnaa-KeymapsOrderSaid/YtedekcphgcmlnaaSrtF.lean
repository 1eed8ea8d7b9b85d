/- Sorting numbers: the heap. -/
import Derived.Test.YtedekcphgcmlnaaSrtE
namespace Go.Proofs.Ytedekcphgcmlnaa
open Go.RowKit Go.Sort

theorem sd_stop {hi f r : Nat} {d : Array Int} (h : hi ≤ 2 * r + 1) : siftDown ltInt hi f r d = d := by
  unfold siftDown
  rw [dif_pos h]
theorem sd_go {hi f r : Nat} {d : Array Int} (h : 2 * r + 1 < hi) (b : Bool) (hb : (decide (2 * r + 1 + 1 < hi) && ltInt d[f + (2 * r + 1)]! d[f + (2 * r + 1) + 1]!) = b) :
    siftDown ltInt hi f r d = if ltInt d[f + r]! d[f + (if b then 2 * r + 2 else 2 * r + 1)]! = true then siftDown ltInt hi f (if b then 2 * r + 2 else 2 * r + 1) (swp d (f + r) (f + (if b then 2 * r + 2 else 2 * r + 1))) else d := by
  rw [siftDown, dif_neg (by omega)]
  cases b with
  | true =>
    rw [if_pos (by simpa using hb)]
    have h2 : 2 * r + 2 < hi := by
      simp only [Bool.and_eq_true, decide_eq_true_eq] at hb
      omega
    simp only [if_true]
    cases hl : ltInt d[f + r]! d[f + (2 * r + 2)]! with
    | true => simp [h2]
    | false => simp
  | false =>
    rw [if_neg (by simpa using hb)]
    simp only [Bool.false_eq_true, if_false]
    cases hl : ltInt d[f + r]! d[f + (2 * r + 1)]! with
    | true => simp
    | false => simp
theorem sd_c {hi f r c : Nat} {d : Array Int} (h : 2 * r + 1 < hi) (hc : ∃ b, (decide (2 * r + 1 + 1 < hi) && ltInt d[f + (2 * r + 1)]! d[f + (2 * r + 1) + 1]!) = b ∧ c = (if b then 2 * r + 2 else 2 * r + 1)) :
    siftDown ltInt hi f r d = if ltInt d[f + r]! d[f + c]! = true then siftDown ltInt hi f c (swp d (f + r) (f + c)) else d := by
  obtain ⟨b, h1, rfl⟩ := hc
  exact sd_go h b h1
set_option maxRecDepth 100000 in
set_option maxHeartbeats 8000000 in
theorem sift_any {w0 w : World} {g n cap r0 hi f : Nat} {d : Array Int} (h : SI w0 w g n d) (hf : f + hi ≤ n) (hr : r0 ≤ n) (hn2 : n ≤ 1000000) :
    Calls Try.prog 45 #[.slice (some ⟨g, 0, none⟩) n cap, .int .i64 r0, .int .i64 hi, .int .i64 f] w (Srt w0 g n (siftDown ltInt hi f r0 d)) := by
  have H0 := Lib.hid h
  obtain ⟨R, hR⟩ : ∃ R, siftDown ltInt hi f r0 d = R := ⟨_, rfl⟩
  have HR0 := Lib.hid hR
  rw [hR]
  clear h hR
  go_enter Try.func45, Try.ntmps45
  go_wp2_with fail
  go_loopw [8] (fun v wr => ∃ (r : Nat) (d : Array Int), v = .int .i64 r ∧ r ≤ n ∧ Hid (SI w0 wr g n d) ∧ Hid (siftDown ltInt hi f r d = R)) (fun v _ => n - (intOf v).toNat)
  case atStart => exact ⟨r0, d, rfl, hr, H0, HR0⟩
  case round =>
    clear H0 HR0
    obtain ⟨r, d, rfl, hrn, HI, HR2⟩ := hrel
    obtain ⟨c, hc, hc0⟩ : ∃ c : Nat, 2 * (r : Int) + 1 = (c : Int) ∧ c = 2 * r + 1 := ⟨2 * r + 1, by omega, rfl⟩
    have hb0 : c ≤ 2000001 := by omega
    have hb00 : r ≤ 1000000 := by omega
    by_cases hlo : c < hi
    · have hlo2 : ¬ ((hi : Int) ≤ (c : Int)) := by omega
      obtain ⟨c2, hc2, hc20⟩ : ∃ c2 : Nat, (c : Int) + 1 = (c2 : Int) ∧ c2 = c + 1 := ⟨c + 1, rfl, rfl⟩
      obtain ⟨R1, hR1, hR10⟩ : ∃ R1 : Nat, (f : Int) + (r : Int) = (R1 : Int) ∧ R1 = f + r := ⟨f + r, rfl, rfl⟩
      obtain ⟨C1, hC1, hC10⟩ : ∃ C1 : Nat, (f : Int) + (c : Int) = (C1 : Int) ∧ C1 = f + c := ⟨f + c, rfl, rfl⟩
      obtain ⟨C2, hC2, hC20, hC21⟩ : ∃ C2 : Nat, (f : Int) + (c2 : Int) = (C2 : Int) ∧ C2 = f + c2 ∧ (C1 : Int) + 1 = (C2 : Int) := ⟨f + c2, rfl, rfl, by omega⟩
      have HC := Lib.hid (And.intro hc0 (And.intro hc20 (And.intro hR10 (And.intro hC10 hC20))))
      have wR1 : IntKind.i64.wrap (R1 : Int) = (R1 : Int) := IntWalk.i64_in _ (by omega)
      have wC1 : IntKind.i64.wrap (C1 : Int) = (C1 : Int) := IntWalk.i64_in _ (by omega)
      have wC2 : IntKind.i64.wrap (C2 : Int) = (C2 : Int) := IntWalk.i64_in _ (by omega)
      have hb1 : c ≤ 2000001 := by omega
      have hb2 : c2 ≤ 2000002 := by omega
      have hb3 : R1 ≤ 2000000 := by omega
      have hb4 : C1 ≤ 3000001 := by omega
      have hb5 : C1 < n := by omega
      have hb6 : R1 < n := by omega
      have hb7 : ¬ (R1 = C1) := by omega
      have hb8 : ¬ (R1 = C2) := by omega
      have hb9 : n - c < n - r := by omega
      by_cases h2 : c2 < hi
      · have h22 : decide ((c2 : Int) < (hi : Int)) = true := by simp; omega
        have hb10 : C2 < n := by omega
        have hb11 : n - c2 < n - r := by omega
        obtain ⟨u, v, hu, hv, a0, a1, _, _, HL1, _⟩ := si_two HI.out C1 C2 hb5 hb10
        cases huv : ltInt u v with
        | true =>
          rw [huv] at HL1
          have HR3 : Hid (siftDown ltInt hi f r d = if ltInt d[R1]! d[C2]! = true then siftDown ltInt hi f c2 (swp d R1 C2) else d) := Lib.hid (by
            have := sd_c (hi := hi) (f := f) (r := r) (c := c2) (d := d) (by omega) ⟨true, by rw [show f + (2 * r + 1) = C1 by omega, show C1 + 1 = C2 by omega, hu, hv, huv]; simp; omega, by simp; omega⟩
            rw [show f + r = R1 by omega, show f + c2 = C2 by omega] at this
            exact this)
          clear hu hv huv hc0 hc20 hR10 hC10 hC20
          go_upto_region 3 with fail
          go_quiet ((go_at_call 40; exact Calls.quiet_of_same (HL1.out _)))
          clear a0 a1 HL1
          obtain ⟨wx, hwx⟩ : ∃ W : World, wr.drewN nq = W := ⟨_, rfl⟩
          rw [hwx]
          have HIx : Hid (SI w0 wx g n d) := Lib.hid (hwx ▸ HI.out.drewN nq)
          clear hwx HI
          obtain ⟨p, q, hp, hq, x0, x1, y0, y1, HL, HW⟩ := si_two HIx.out R1 C2 hb6 hb10
          rw [hp, hq] at HR3
          cases hpq : ltInt p q with
          | false =>
            have HR4 : Hid (d = R) := Lib.hid (by rw [← HR2.out, HR3.out, hpq, if_neg (by decide)])
            rw [hpq] at HL
            clear hp hq hpq HR2 HW HR3
            go_upto_region 5 with fail
            go_quiet ((go_at_call 40; exact Calls.quiet_of_same (HL.out _)))
            go_wp2_with fail
            refine bodyPost_ret (results_none rfl _ _ _) rfl ?_
            exact ⟨rfl, by rw [← HR4.out]; exact HIx.out.drewN _⟩
          | true =>
            have HR4 : Hid (siftDown ltInt hi f c2 (swp d R1 C2) = R) := Lib.hid (by rw [← HR2.out, HR3.out, hpq, if_pos rfl])
            rw [hpq] at HL
            clear hp hq hpq HR2 HR3
            go_upto_region 5 with fail
            go_quiet ((go_at_call 40; exact Calls.quiet_of_same (HL.out _)))
            go_upto_region 6 with fail
            go_region
            go_wp2_with fail
            go_roundw
            case rel => exact ⟨c2, swp d R1 C2, rfl, by omega, Lib.hid (HW.out.drewN _), HR4⟩
            case measure => simp [intOf]; omega
        | false =>
          rw [huv] at HL1
          have HR3 : Hid (siftDown ltInt hi f r d = if ltInt d[R1]! d[C1]! = true then siftDown ltInt hi f c (swp d R1 C1) else d) := Lib.hid (by
            have := sd_c (hi := hi) (f := f) (r := r) (c := c) (d := d) (by omega) ⟨false, by rw [show f + (2 * r + 1) = C1 by omega, show C1 + 1 = C2 by omega, hu, hv, huv]; simp, by simp; omega⟩
            rw [show f + r = R1 by omega, show f + c = C1 by omega] at this
            exact this)
          clear hu hv huv hc0 hc20 hR10 hC10 hC20
          go_upto_region 3 with fail
          go_quiet ((go_at_call 40; exact Calls.quiet_of_same (HL1.out _)))
          clear a0 a1 HL1
          obtain ⟨wx, hwx⟩ : ∃ W : World, wr.drewN nq = W := ⟨_, rfl⟩
          rw [hwx]
          have HIx : Hid (SI w0 wx g n d) := Lib.hid (hwx ▸ HI.out.drewN nq)
          clear hwx HI
          obtain ⟨p, q, hp, hq, x0, x1, y0, y1, HL, HW⟩ := si_two HIx.out R1 C1 hb6 hb5
          rw [hp, hq] at HR3
          cases hpq : ltInt p q with
          | false =>
            have HR4 : Hid (d = R) := Lib.hid (by rw [← HR2.out, HR3.out, hpq, if_neg (by decide)])
            rw [hpq] at HL
            clear hp hq hpq HR2 HW HR3
            go_upto_region 5 with fail
            go_quiet ((go_at_call 40; exact Calls.quiet_of_same (HL.out _)))
            go_wp2_with fail
            refine bodyPost_ret (results_none rfl _ _ _) rfl ?_
            exact ⟨rfl, by rw [← HR4.out]; exact HIx.out.drewN _⟩
          | true =>
            have HR4 : Hid (siftDown ltInt hi f c (swp d R1 C1) = R) := Lib.hid (by rw [← HR2.out, HR3.out, hpq, if_pos rfl])
            rw [hpq] at HL
            clear hp hq hpq HR2 HR3
            go_upto_region 5 with fail
            go_quiet ((go_at_call 40; exact Calls.quiet_of_same (HL.out _)))
            go_upto_region 6 with fail
            go_region
            go_wp2_with fail
            go_roundw
            case rel => exact ⟨c, swp d R1 C1, rfl, by omega, Lib.hid (HW.out.drewN _), HR4⟩
            case measure => simp [intOf]; omega
      · have h22 : decide ((c2 : Int) < (hi : Int)) = false := by simp; omega
        have HR3 : Hid (siftDown ltInt hi f r d = if ltInt d[R1]! d[C1]! = true then siftDown ltInt hi f c (swp d R1 C1) else d) := Lib.hid (by
          have := sd_c (hi := hi) (f := f) (r := r) (c := c) (d := d) (by omega) ⟨false, by
            have : ¬ (2 * r + 1 + 1 < hi) := by omega
            simp [this], by simp; omega⟩
          rw [show f + r = R1 by omega, show f + c = C1 by omega] at this
          exact this)
        clear hc0 hc20 hR10 hC10 hC20
        go_upto_region 3 with fail
        go_quiet (fail)
        obtain ⟨wx, hwx⟩ : ∃ W : World, wr.drewN nq = W := ⟨_, rfl⟩
        rw [hwx]
        have HIx : Hid (SI w0 wx g n d) := Lib.hid (hwx ▸ HI.out.drewN nq)
        clear hwx HI
        obtain ⟨p, q, hp, hq, x0, x1, y0, y1, HL, HW⟩ := si_two HIx.out R1 C1 hb6 hb5
        rw [hp, hq] at HR3
        cases hpq : ltInt p q with
        | false =>
          have HR4 : Hid (d = R) := Lib.hid (by rw [← HR2.out, HR3.out, hpq, if_neg (by decide)])
          rw [hpq] at HL
          clear hp hq hpq HR2 HW HR3
          go_upto_region 5 with fail
          go_quiet ((go_at_call 40; exact Calls.quiet_of_same (HL.out _)))
          go_wp2_with fail
          refine bodyPost_ret (results_none rfl _ _ _) rfl ?_
          exact ⟨rfl, by rw [← HR4.out]; exact HIx.out.drewN _⟩
        | true =>
          have HR4 : Hid (siftDown ltInt hi f c (swp d R1 C1) = R) := Lib.hid (by rw [← HR2.out, HR3.out, hpq, if_pos rfl])
          rw [hpq] at HL
          clear hp hq hpq HR2 HR3
          go_upto_region 5 with fail
          go_quiet ((go_at_call 40; exact Calls.quiet_of_same (HL.out _)))
          go_upto_region 6 with fail
          go_region
          go_wp2_with fail
          go_roundw
          case rel => exact ⟨c, swp d R1 C1, rfl, by omega, Lib.hid (HW.out.drewN _), HR4⟩
          case measure => simp [intOf]; omega
    · have hlo2 : (hi : Int) ≤ (c : Int) := by omega
      have HR3 : Hid (d = R) := Lib.hid (by rw [← HR2.out, sd_stop (by omega)])
      clear hc0
      go_wp2_with fail
      refine bodyPost_ret (results_none rfl _ _ _) rfl ?_
      exact ⟨rfl, by rw [← HR3.out]; exact HI.out⟩
end Go.Proofs.Ytedekcphgcmlnaa
