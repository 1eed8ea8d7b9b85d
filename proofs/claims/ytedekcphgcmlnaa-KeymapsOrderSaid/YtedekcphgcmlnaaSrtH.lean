/- Sorting numbers: the part equal to the pivot. -/
import Derived.Test.YtedekcphgcmlnaaSrtG
import Derived.Deep.CutBlock
import Derived.Deep.LoopGhost
namespace Go.Proofs.Ytedekcphgcmlnaa
open Go.RowKit Go.Sort

theorem su_go {P : Int → Bool} {d : Array Int} {j i : Nat} (h : i ≤ j) (hp : P d[i]! = true) : scanUp P d j i = scanUp P d j (i + 1) := by
  rw [scanUp, if_pos (by simp [h, hp])]
theorem su_stop {P : Int → Bool} {d : Array Int} {j i : Nat} (h : i ≤ j → P d[i]! = false) : scanUp P d j i = i := by
  rw [scanUp, if_neg]
  simp only [Bool.and_eq_true, decide_eq_true_eq]
  rintro ⟨h1, h2⟩
  rw [h h1] at h2
  cases h2
theorem sd_go2 {P : Int → Bool} {d : Array Int} {j i : Nat} (h : i ≤ j + 1) (hp : P d[j + 1]! = true) : scanDown P d i (j + 1) = scanDown P d i j := by
  rw [scanDown, if_pos (by simp [h, hp])]
theorem sd_stop2 {P : Int → Bool} {d : Array Int} {j i : Nat} (h : i ≤ j → P d[j]! = false) : scanDown P d i j = j := by
  cases j with
  | zero => rfl
  | succ j =>
    rw [scanDown, if_neg]
    simp only [Bool.and_eq_true, decide_eq_true_eq]
    rintro ⟨h1, h2⟩
    rw [h h1] at h2
    cases h2
theorem swp_head {d : Array Int} {a i j : Nat} (hi : i < d.size) (hj : j < d.size) (h1 : a < i) (h2 : a < j) : (swp d i j)[a]! = d[a]! := by
  rw [swp_get d hi hj, if_neg (by omega), if_neg (by omega)]
set_option maxRecDepth 100000 in
set_option maxHeartbeats 8000000 in
theorem partEq_any {w : World} {g n cap a b p0 : Nat} {d : Array Int} (h : RA w g d) (hn : d.size = n) (hap : a ≤ p0) (hpb : p0 < b) (hb : b ≤ n) (hn2 : n ≤ 1000000) :
    Calls Try.prog 41 #[.slice (some ⟨g, 0, none⟩) n cap, .int .i64 a, .int .i64 b, .int .i64 p0] w fun e w' => ∃ (m : Nat) (d' : Array Int), partitionEqual ltInt d a b p0 = (m, d') ∧ e = .returned (.int .i64 m) ∧ SI w w' g n d' := by
  have H0 : Hid (SI w w g n d) := Lib.hid ⟨h, Fr.refl _ _ _, hn⟩
  obtain ⟨D, hD⟩ : ∃ D, swp d a p0 = D := ⟨_, rfl⟩
  have HD := Lib.hid hD
  obtain ⟨R, hR⟩ : ∃ R, partitionEqual ltInt d a b p0 = R := ⟨_, rfl⟩
  have HR0 : Hid (partEqLoop ltInt a (a + 1) (b - 1) D = R) := Lib.hid (by rw [← hD, ← hR]; rfl)
  rw [hR]
  obtain ⟨c, rfl⟩ : ∃ c, b = c + 1 := ⟨b - 1, by omega⟩
  clear h hn hD hR
  go_enter Try.func41, Try.ntmps41
  go_upto_region 1 with fail
  go_cut [8] from 11 to 24 (fun s wx => s = .int .i64 0 ∧ Hid (SI w wx g n D))
  case first =>
    obtain ⟨p, q, hp, hq, x0, x1, y0, y1, _, HW⟩ := si_two H0.out a p0 (by omega) (by omega)
    rw [HD.out] at HW
    have hn1 : a < n := by omega
    rcases Nat.eq_or_lt_of_le hap with he | he
    · subst he
      obtain rfl : p = q := by rw [← hp, ← hq]
      clear hp hq H0
      go_region
      go_wp2_with fail
      go_meet
      exact ⟨rfl, Lib.hid (HW.out.drewN _)⟩
    · have hne : ¬ (a = p0) := by omega
      clear hp hq H0
      go_region
      go_wp2_with fail
      go_meet
      exact ⟨rfl, Lib.hid (HW.out.drewN _)⟩
  case rest =>
  obtain ⟨rfl, HI0⟩ := hcut
  clear H0
  clear HD
  have HR1 : Hid (partEqLoop ltInt a (a + 1) c D = R) := HR0
  clear HR0
  go_upto_block 0 with fail
  go_wp2_with fail
  go_loopg [9, 10] (c + 1 - (a + 1)) (fun k v u wr => ∃ (i j : Nat) (d : Array Int), v = .int .i64 i ∧ u = .int .i64 j ∧ k = j + 1 - i ∧ a < i ∧ i ≤ n ∧ j < n ∧ Hid (SI w wr g n d) ∧ Hid (partEqLoop ltInt a i j d = R))
  case atStart => exact ⟨a + 1, c, D, by rfl, by rfl, rfl, by omega, by omega, by omega, HI0, HR1⟩
  case round =>
    clear HI0 HR1
    obtain ⟨i, j, d, rfl, rfl, rfl, hai, hin, hjn, HI, HR⟩ := hrel
    obtain ⟨P, hP⟩ : ∃ P : Int → Bool, (fun x => !ltInt d[a]! x) = P := ⟨_, rfl⟩
    have HP : Hid (∀ x, P x = !ltInt d[a]! x) := Lib.hid (fun x => by rw [← hP])
    obtain ⟨Q, hQ⟩ : ∃ Q : Int → Bool, (fun x => ltInt d[a]! x) = Q := ⟨_, rfl⟩
    have HQ : Hid (∀ x, Q x = ltInt d[a]! x) := Lib.hid (fun x => by rw [← hQ])
    have HR2 := Lib.hid (partEqLoop_eq ltInt a i j d)
    rw [hP, hQ, HR.out] at HR2
    clear hP hQ HR
    go_upto_block 2 with fail
    go_cut [9] from 29 to 82 (fun s wx => ∃ k2 : Nat, s = .int .i64 k2 ∧ i ≤ k2 ∧ k2 ≤ n ∧ Hid (SI w wx g n d) ∧ Hid (scanUp P d j i = k2))
    case first =>
      go_wp2_with fail
      go_loopg [9] (j + 1 - i) (fun k v wr => ∃ k2 : Nat, v = .int .i64 k2 ∧ i ≤ k2 ∧ k2 ≤ n ∧ k = j + 1 - k2 ∧ Hid (SI w wr g n d) ∧ Hid (scanUp P d j i = scanUp P d j k2))
      case atStart => exact ⟨i, rfl, by omega, by omega, rfl, HI, Lib.hid rfl⟩
      case round =>
        obtain ⟨k2, rfl, h1, h2, hk, HJ, HE⟩ := hrel
        subst hk
        clear HI
        by_cases hij : k2 ≤ j
        · have hd : decide ((k2 : Int) ≤ (j : Int)) = true := by simp; omega
          obtain ⟨p, q, hp, hq, x0, x1, y0, y1, HL, _⟩ := si_two HJ.out a (k2) (by omega) (by omega)
          have hn1 : a < n := by omega
          have hn2 : k2 < n := by omega
          cases huv : ltInt p q with
          | true =>
            rw [huv] at HL
            have hpv : P d[k2]! = false := by rw [HP.out, hp, hq, huv]; rfl
            have HE2 : Hid (scanUp P d j i = k2) := Lib.hid (by rw [HE.out]; exact su_stop (fun _ => hpv))
            clear hpv huv hp hq HE
            go_upto_region 3 with fail
            go_quiet ((go_at_call 40; exact Calls.quiet_of_same (HL.out _)))
            go_wp2_with fail
            go_meet
            exact ⟨k2, rfl, by omega, by omega, Lib.hid (HJ.out.drewN _), HE2⟩
          | false =>
            rw [huv] at HL
            have hpv : P d[k2]! = true := by rw [HP.out, hp, hq, huv]; rfl
            have HE2 : Hid (scanUp P d j i = scanUp P d j (k2 + 1)) := Lib.hid (by rw [HE.out]; exact su_go hij hpv)
            clear hpv huv hp hq HE
            go_upto_region 3 with fail
            go_quiet ((go_at_call 40; exact Calls.quiet_of_same (HL.out _)))
            go_wp2_with fail
            go_roundg (j + 1 - (k2 + 1))
            case measure => omega
            case rel => exact ⟨k2 + 1, by go_num, by omega, by omega, rfl, Lib.hid (HJ.out.drewN _), HE2⟩
        · have hd : decide ((k2 : Int) ≤ (j : Int)) = false := by simp; omega
          have HE2 : Hid (scanUp P d j i = k2) := Lib.hid (by rw [HE.out]; exact su_stop (fun h => absurd h hij))
          go_upto_region 3 with fail
          go_quiet (fail)
          go_wp2_with fail
          go_meet
          exact ⟨k2, rfl, h1, h2, Lib.hid (HJ.out.drewN _), HE2⟩
    case rest =>
    obtain ⟨i2, rfl, i21, i22, HI2, HE2⟩ := hcut
    clear HI
    go_upto_block 4 with fail
    go_cut [10] from 29 to 82 (fun s wx => ∃ k2 : Nat, s = .int .i64 k2 ∧ k2 ≤ j ∧ k2 < n ∧ Hid (SI w wx g n d) ∧ Hid (scanDown Q d i2 j = k2))
    case first =>
      go_wp2_with fail
      go_loopg [10] (j) (fun k v wr => ∃ k2 : Nat, v = .int .i64 k2 ∧ k2 ≤ j ∧ k2 < n ∧ k = k2 ∧ Hid (SI w wr g n d) ∧ Hid (scanDown Q d i2 j = scanDown Q d i2 k2))
      case atStart => exact ⟨j, rfl, by omega, by omega, rfl, HI2, Lib.hid rfl⟩
      case round =>
        obtain ⟨k2, rfl, h1, h2, hk, HJ, HE⟩ := hrel
        obtain rfl : k2 = gk := hk.symm
        clear HI2
        by_cases hij : i2 ≤ k2
        · obtain ⟨k3, rfl⟩ : ∃ k3, k2 = k3 + 1 := ⟨k2 - 1, by omega⟩
          have hd : decide ((i2 : Int) ≤ (k3 : Int) + 1) = true := by simp; omega
          obtain ⟨p, q, hp, hq, x0, x1, y0, y1, HL, _⟩ := si_two HJ.out a (k3 + 1) (by omega) (by omega)
          have hn1 : a < n := by omega
          have hn2 : k3 + 1 < n := by omega
          cases huv : ltInt p q with
          | true =>
            rw [huv] at HL
            have hpv : Q d[k3 + 1]! = true := by rw [HQ.out, hp, hq, huv]
            have HE2 : Hid (scanDown Q d i2 j = scanDown Q d i2 k3) := Lib.hid (by rw [HE.out]; exact sd_go2 hij hpv)
            clear hpv huv hp hq HE
            go_upto_region 5 with fail
            go_quiet ((go_at_call 40; exact Calls.quiet_of_same (HL.out _)))
            go_wp2_with fail
            go_roundg ((k3))
            case measure => omega
            case rel => exact ⟨k3, by go_num, by omega, by omega, rfl, Lib.hid (HJ.out.drewN _), HE2⟩
          | false =>
            rw [huv] at HL
            have hpv : Q d[k3 + 1]! = false := by rw [HQ.out, hp, hq, huv]
            have HE2 : Hid (scanDown Q d i2 j = k3 + 1) := Lib.hid (by rw [HE.out]; exact sd_stop2 (fun _ => hpv))
            clear hpv huv hp hq HE
            go_upto_region 5 with fail
            go_quiet ((go_at_call 40; exact Calls.quiet_of_same (HL.out _)))
            go_wp2_with fail
            go_meet
            exact ⟨k3 + 1, rfl, by omega, by omega, Lib.hid (HJ.out.drewN _), HE2⟩
        · have hd : decide ((i2 : Int) ≤ (k2 : Int)) = false := by simp; omega
          have HE2 : Hid (scanDown Q d i2 j = k2) := Lib.hid (by rw [HE.out]; exact sd_stop2 (fun h => absurd h hij))
          go_upto_region 5 with fail
          go_quiet (fail)
          go_wp2_with fail
          go_meet
          exact ⟨k2, rfl, h1, h2, Lib.hid (HJ.out.drewN _), HE2⟩
    case rest =>
    obtain ⟨j2, rfl, j21, j22, HI3, HE3⟩ := hcut
    clear HI2
    have HR3 := Lib.hid HR2.out
    rw [HE2.out, HE3.out] at HR3
    clear HR2 HE2 HE3 HP HQ
    by_cases hij : j2 < i2
    · have hij2 : (j2 : Int) < (i2 : Int) := by omega
      have HR4 : Hid (R = (i2, d)) := Lib.hid (by have := HR3.out; rwa [if_pos hij] at this)
      clear HR3
      go_wp2_with fail
      go_ret
      exact ⟨i2, d, HR4.out, rfl, HI3.out⟩
    · have hij2 : ¬ ((j2 : Int) < (i2 : Int)) := by omega
      have HR4 : Hid (partEqLoop ltInt a (i2 + 1) (j2 - 1) (swp d i2 j2) = R) := Lib.hid (by have := HR3.out; rw [if_neg hij] at this; exact this.symm)
      obtain ⟨p, q, hp, hq, x0, x1, y0, y1, _, HW⟩ := si_two HI3.out i2 j2 (by omega) (by omega)
      obtain ⟨j3, rfl⟩ : ∃ j3, j2 = j3 + 1 := ⟨j2 - 1, by omega⟩
      have HR5 : Hid (partEqLoop ltInt a (i2 + 1) j3 (swp d i2 (j3 + 1)) = R) := HR4
      have hn1 : i2 < n := by omega
      clear HR3 HR4 HI3
      rcases Nat.eq_or_lt_of_le (show i2 ≤ j3 + 1 by omega) with he | he
      · subst he
        obtain rfl : p = q := by rw [← hp, ← hq]
        clear hp hq
        go_upto_region 8 with fail
        go_region
        go_wp2_with fail
        go_roundg (j3 + 1 - (j3 + 1 + 1))
        case measure => omega
        case rel => exact ⟨j3 + 1 + 1, j3, _, by go_num, by go_num, rfl, by omega, by omega, by omega, Lib.hid (HW.out.drewN _), HR5⟩
      · have hne : ¬ (i2 = j3 + 1) := by omega
        clear hp hq
        go_upto_region 8 with fail
        go_region
        go_wp2_with fail
        go_roundg (j3 + 1 - (i2 + 1))
        case measure => omega
        case rel => exact ⟨i2 + 1, j3, _, by go_num, by go_num, rfl, by omega, by omega, by omega, Lib.hid (HW.out.drewN _), HR5⟩
end Go.Proofs.Ytedekcphgcmlnaa
