/- Sorting numbers: the two parts round the pivot. -/
import Derived.Test.YtedekcphgcmlnaaSrtH
import Derived.Deep.CutBlock
import Derived.Deep.LoopGhost
namespace Go.Proofs.Ytedekcphgcmlnaa
open Go.RowKit Go.Sort

theorem part_eq {d : Array Int} {a b p i j : Nat} (h1 : scanUp (fun x => ltInt x (swp d a p)[a]!) (swp d a p) (b - 1) (a + 1) = i) (h2 : scanDown (fun x => !ltInt x (swp d a p)[a]!) (swp d a p) i (b - 1) = j) :
    partition ltInt d a b p = if i > j then (j, true, swp (swp d a p) j a) else ((partLoop ltInt a (i + 1) (j - 1) (swp (swp d a p) i j)).1, false, swp (partLoop ltInt a (i + 1) (j - 1) (swp (swp d a p) i j)).2 (partLoop ltInt a (i + 1) (j - 1) (swp (swp d a p) i j)).1 a) := by
  unfold partition
  simp only [h1, h2]
theorem sd_low (Q : Int → Bool) (d : Array Int) (a i j : Nat) (h1 : a < i) (h : a ≤ j) : a ≤ scanDown Q d i j := by
  induction j with
  | zero => exact h
  | succ j ih =>
    unfold scanDown
    split
    · rename_i hh
      simp only [Bool.and_eq_true, decide_eq_true_eq] at hh
      exact ih (by omega)
    · exact h
set_option maxRecDepth 100000 in
set_option maxHeartbeats 8000000 in
theorem partition_any {w : World} {g n cap a b p0 : Nat} {d : Array Int} (h : RA w g d) (hn : d.size = n) (hap : a ≤ p0) (hpb : p0 < b) (hb : b ≤ n) (hn2 : n ≤ 1000000) :
    Calls Try.prog 42 #[.slice (some ⟨g, 0, none⟩) n cap, .int .i64 a, .int .i64 b, .int .i64 p0] w fun e w' => ∃ (m : Nat) (ap : Bool) (d' : Array Int), partition ltInt d a b p0 = (m, ap, d') ∧ e = .returned (.tuple #[.int .i64 m, .bool ap]) ∧ SI w w' g n d' := by
  have H0 : Hid (SI w w g n d) := Lib.hid ⟨h, Fr.refl _ _ _, hn⟩
  obtain ⟨c, rfl⟩ : ∃ c, b = c + 1 := ⟨b - 1, by omega⟩
  obtain ⟨D, hD⟩ : ∃ D, swp d a p0 = D := ⟨_, rfl⟩
  have HD := Lib.hid hD
  obtain ⟨R, hR⟩ : ∃ R, partition ltInt d a (c + 1) p0 = R := ⟨_, rfl⟩
  have HR0 : Hid (∀ i j, scanUp (fun x => ltInt x D[a]!) D c (a + 1) = i → scanDown (fun x => !ltInt x D[a]!) D i c = j → (if i > j then (j, true, swp D j a) else ((partLoop ltInt a (i + 1) (j - 1) (swp D i j)).1, false, swp (partLoop ltInt a (i + 1) (j - 1) (swp D i j)).2 (partLoop ltInt a (i + 1) (j - 1) (swp D i j)).1 a)) = R) := Lib.hid (by
    intro i j h1 h2
    rw [← hD] at h1 h2 ⊢
    rw [← hR]
    exact (part_eq h1 h2).symm)
  rw [hR]
  clear h hn hD hR
  go_enter Try.func42, Try.ntmps42
  go_upto_region 1 with fail
  go_cut [8] from 12 to 25 (fun s wx => s = .int .i64 0 ∧ Hid (SI w wx g n D))
  case first =>
    obtain ⟨p, q, hp, hq, x0, x1, y0, y1, _, HW⟩ := si_two H0.out a p0 (by omega) (by omega)
    rw [HD.out] at HW
    have hn1 : a < n := by omega
    rcases Nat.eq_or_lt_of_le hap with he | he
    · subst he
      obtain rfl : p = q := by rw [← hp, ← hq]
      clear hp hq H0
      go_region
      go_wp2_with fail
      go_meet
      exact ⟨rfl, Lib.hid (HW.out.drewN _)⟩
    · have hne : ¬ (a = p0) := by omega
      clear hp hq H0
      go_region
      go_wp2_with fail
      go_meet
      exact ⟨rfl, Lib.hid (HW.out.drewN _)⟩
  case rest =>
  obtain ⟨rfl, HI0⟩ := hcut
  clear H0
  clear HD
  obtain ⟨P, hP⟩ : ∃ P : Int → Bool, (fun x => ltInt x D[a]!) = P := ⟨_, rfl⟩
  have HP : Hid (∀ x, P x = ltInt x D[a]!) := Lib.hid (fun x => by rw [← hP])
  obtain ⟨Q, hQ⟩ : ∃ Q : Int → Bool, (fun x => !ltInt x D[a]!) = Q := ⟨_, rfl⟩
  have HQ : Hid (∀ x, Q x = !ltInt x D[a]!) := Lib.hid (fun x => by rw [← hQ])
  have HR1 := Lib.hid HR0.out
  rw [hP, hQ] at HR1
  clear hP hQ HR0
  obtain ⟨i, hi, hi2⟩ : ∃ i : Nat, (a : Int) + 1 = (i : Int) ∧ a + 1 = i := ⟨a + 1, rfl, rfl⟩
  have HI1 := Lib.hid hi2
  have hai : a < i := by omega
  have hcn : c < n := by omega
  have hin : i ≤ n := by omega
  rw [HI1.out] at HR1
  clear hi2
  go_upto_block 0 with fail
  go_cut [10] from 30 to 166 (fun s wx => ∃ k2 : Nat, s = .int .i64 k2 ∧ i ≤ k2 ∧ k2 ≤ n ∧ Hid (SI w wx g n D) ∧ Hid (scanUp P D c i = k2))
  case first =>
    go_wp2_with fail
    go_loopg [10] (c + 1 - i) (fun k v wr => ∃ k2 : Nat, v = .int .i64 k2 ∧ i ≤ k2 ∧ k2 ≤ n ∧ k = c + 1 - k2 ∧ Hid (SI w wr g n D) ∧ Hid (scanUp P D c i = scanUp P D c k2))
    case atStart => exact ⟨i, rfl, by omega, by omega, rfl, HI0, Lib.hid rfl⟩
    case round =>
      obtain ⟨k2, rfl, h1, h2, hk, HJ, HE⟩ := hrel
      subst hk
      clear HI0
      by_cases hij : k2 ≤ c
      · have hd : decide ((k2 : Int) ≤ (c : Int)) = true := by simp; omega
        obtain ⟨p, q, hp, hq, x0, x1, y0, y1, HL, _⟩ := si_two HJ.out (k2) a (by omega) (by omega)
        have hn1 : a < n := by omega
        have hn2 : k2 < n := by omega
        cases huv : ltInt p q with
        | true =>
          rw [huv] at HL
          have hpv : P D[k2]! = true := by rw [HP.out, hp, hq, huv]
          have HE2 : Hid (scanUp P D c i = scanUp P D c (k2 + 1)) := Lib.hid (by rw [HE.out]; exact su_go hij hpv)
          clear hpv huv hp hq HE
          go_upto_region 3 with fail
          go_quiet ((go_at_call 40; exact Calls.quiet_of_same (HL.out _)))
          go_wp2_with fail
          go_roundg (c + 1 - (k2 + 1))
          case measure => omega
          case rel => exact ⟨k2 + 1, by go_num, by omega, by omega, rfl, Lib.hid (HJ.out.drewN _), HE2⟩
        | false =>
          rw [huv] at HL
          have hpv : P D[k2]! = false := by rw [HP.out, hp, hq, huv]
          have HE2 : Hid (scanUp P D c i = k2) := Lib.hid (by rw [HE.out]; exact su_stop (fun _ => hpv))
          clear hpv huv hp hq HE
          go_upto_region 3 with fail
          go_quiet ((go_at_call 40; exact Calls.quiet_of_same (HL.out _)))
          go_wp2_with fail
          go_meet
          exact ⟨k2, rfl, by omega, by omega, Lib.hid (HJ.out.drewN _), HE2⟩
      · have hd : decide ((k2 : Int) ≤ (c : Int)) = false := by simp; omega
        have HE2 : Hid (scanUp P D c i = k2) := Lib.hid (by rw [HE.out]; exact su_stop (fun h => absurd h hij))
        go_upto_region 3 with fail
        go_quiet (fail)
        go_wp2_with fail
        go_meet
        exact ⟨k2, rfl, h1, h2, Lib.hid (HJ.out.drewN _), HE2⟩
  case rest =>
  obtain ⟨i2, rfl, i21, i22, HI2, HE2⟩ := hcut
  clear HI0
  go_upto_block 2 with fail
  go_cut [11] from 30 to 166 (fun s wx => ∃ k2 : Nat, s = .int .i64 k2 ∧ k2 ≤ c ∧ k2 < n ∧ Hid (SI w wx g n D) ∧ Hid (scanDown Q D i2 c = k2))
  case first =>
    go_wp2_with fail
    go_loopg [11] (c) (fun k v wr => ∃ k2 : Nat, v = .int .i64 k2 ∧ k2 ≤ c ∧ k2 < n ∧ k = k2 ∧ Hid (SI w wr g n D) ∧ Hid (scanDown Q D i2 c = scanDown Q D i2 k2))
    case atStart => exact ⟨c, rfl, by omega, by omega, rfl, HI2, Lib.hid rfl⟩
    case round =>
      obtain ⟨k2, rfl, h1, h2, hk, HJ, HE⟩ := hrel
      obtain rfl : k2 = gk := hk.symm
      clear HI2
      by_cases hij : i2 ≤ k2
      · obtain ⟨k3, rfl⟩ : ∃ k3, k2 = k3 + 1 := ⟨k2 - 1, by omega⟩
        have hd : decide ((i2 : Int) ≤ (k3 : Int) + 1) = true := by simp; omega
        obtain ⟨p, q, hp, hq, x0, x1, y0, y1, HL, _⟩ := si_two HJ.out (k3 + 1) a (by omega) (by omega)
        have hn1 : a < n := by omega
        have hn2 : k3 + 1 < n := by omega
        cases huv : ltInt p q with
        | true =>
          rw [huv] at HL
          have hpv : Q D[k3 + 1]! = false := by rw [HQ.out, hp, hq, huv]; rfl
          have HE2 : Hid (scanDown Q D i2 c = k3 + 1) := Lib.hid (by rw [HE.out]; exact sd_stop2 (fun _ => hpv))
          clear hpv huv hp hq HE
          go_upto_region 5 with fail
          go_quiet ((go_at_call 40; exact Calls.quiet_of_same (HL.out _)))
          go_wp2_with fail
          go_meet
          exact ⟨k3 + 1, rfl, by omega, by omega, Lib.hid (HJ.out.drewN _), HE2⟩
        | false =>
          rw [huv] at HL
          have hpv : Q D[k3 + 1]! = true := by rw [HQ.out, hp, hq, huv]; rfl
          have HE2 : Hid (scanDown Q D i2 c = scanDown Q D i2 k3) := Lib.hid (by rw [HE.out]; exact sd_go2 hij hpv)
          clear hpv huv hp hq HE
          go_upto_region 5 with fail
          go_quiet ((go_at_call 40; exact Calls.quiet_of_same (HL.out _)))
          go_wp2_with fail
          go_roundg ((k3))
          case measure => omega
          case rel => exact ⟨k3, by go_num, by omega, by omega, rfl, Lib.hid (HJ.out.drewN _), HE2⟩
      · have hd : decide ((i2 : Int) ≤ (k2 : Int)) = false := by simp; omega
        have HE2 : Hid (scanDown Q D i2 c = k2) := Lib.hid (by rw [HE.out]; exact sd_stop2 (fun h => absurd h hij))
        go_upto_region 5 with fail
        go_quiet (fail)
        go_wp2_with fail
        go_meet
        exact ⟨k2, rfl, h1, h2, Lib.hid (HJ.out.drewN _), HE2⟩
  case rest =>
  obtain ⟨j2, rfl, j21, j22, HI3, HE3⟩ := hcut
  clear HI2
  have HR2 := Lib.hid (HR1.out i2 j2 HE2.out HE3.out)
  have hja : a ≤ j2 := by
    have e2 := sd_low Q D a i2 c (by omega) (by omega)
    rwa [HE3.out] at e2
  clear HR1 HE2 HE3 HP HQ HI1
  by_cases hij : j2 < i2
  · have hij2 : (j2 : Int) < (i2 : Int) := by omega
    have HRS : Hid (R = (j2, true, swp D j2 a)) := Lib.hid (by have := HR2.out; rw [if_pos hij] at this; exact this.symm)
    have HIS := HI3
    clear HR2 HI3
    obtain ⟨p, q, hp, hq, x0, x1, y0, y1, _, HW⟩ := si_two HIS.out j2 a (by omega) (by omega)
    have hn1 : a < n := by omega
    have hn3 : j2 < n := by omega
    rcases Nat.eq_or_lt_of_le hja with he | he
    · subst he
      obtain rfl : p = q := by rw [← hp, ← hq]
      clear hp hq HIS
      go_upto_region 8 with fail
      go_region
      go_wp2_with fail
      go_ret2
      exact ⟨_, true, _, HRS.out, rfl, HW.out.drewN _⟩
    · have hne : ¬ (j2 = a) := by omega
      clear hp hq HIS
      go_upto_region 8 with fail
      go_region
      go_wp2_with fail
      go_ret2
      exact ⟨_, true, _, HRS.out, rfl, HW.out.drewN _⟩
  · have hij2 : ¬ ((j2 : Int) < (i2 : Int)) := by omega
    obtain ⟨⟨M, E⟩, hME⟩ : ∃ X, partLoop ltInt a (i2 + 1) (j2 - 1) (swp D i2 j2) = X := ⟨_, rfl⟩
    have HRS : Hid (R = (M, false, swp E M a)) := Lib.hid (by have := HR2.out; rw [if_neg hij, hME] at this; exact this.symm)
    have HME := Lib.hid hME
    clear HR2 hME
    go_upto_region 10 with fail
    go_cut [9] from 30 to 166 (fun s wx => s = .bool false ∧ Hid (SI w wx g n (swp D i2 j2)))
    case first =>
      obtain ⟨p, q, hp, hq, x0, x1, y0, y1, _, HW⟩ := si_two HI3.out i2 j2 (by omega) (by omega)
      have hn1 : i2 < n := by omega
      clear HI3
      rcases Nat.eq_or_lt_of_le (show i2 ≤ j2 by omega) with he | he
      · subst he
        obtain rfl : p = q := by rw [← hp, ← hq]
        clear hp hq
        go_region
        go_wp2_with fail
        go_meet
        exact ⟨rfl, Lib.hid (HW.out.drewN _)⟩
      · have hne : ¬ (i2 = j2) := by omega
        clear hp hq
        go_region
        go_wp2_with fail
        go_meet
        exact ⟨rfl, Lib.hid (HW.out.drewN _)⟩
    case rest =>
    obtain ⟨rfl, HI4⟩ := hcut
    clear HI3
    obtain ⟨j3, rfl⟩ : ∃ j3, j2 = j3 + 1 := ⟨j2 - 1, by omega⟩
    have HME1 : Hid (partLoop ltInt a (i2 + 1) j3 (swp D i2 (j3 + 1)) = (M, E)) := HME
    clear HME
    go_upto_block 4 with fail
    go_wp2_with fail
    go_loopg [10, 11] (j3 + 1 - (i2 + 1)) (fun k v u wr => ∃ (i j : Nat) (d : Array Int), v = .int .i64 i ∧ u = .int .i64 j ∧ k = j + 1 - i ∧ a < i ∧ i ≤ n ∧ a ≤ j ∧ j < n ∧ Hid (SI w wr g n d) ∧ Hid (partLoop ltInt a i j d = (M, E)))
    case atStart => exact ⟨i2 + 1, j3, _, by go_num, by go_num, rfl, by omega, by omega, by omega, by omega, HI4, HME1⟩
    case round =>
      clear HI4 HME1 hij hij2 i21 i22 j21 j22 hja hcn hai hin hi
      obtain ⟨i, j, d, rfl, rfl, rfl, hai, hin, haj, hjn, HI, HR⟩ := hrel
      obtain ⟨P, hP⟩ : ∃ P : Int → Bool, (fun x => ltInt x d[a]!) = P := ⟨_, rfl⟩
      have HP : Hid (∀ x, P x = ltInt x d[a]!) := Lib.hid (fun x => by rw [← hP])
      obtain ⟨Q, hQ⟩ : ∃ Q : Int → Bool, (fun x => !ltInt x d[a]!) = Q := ⟨_, rfl⟩
      have HQ : Hid (∀ x, Q x = !ltInt x d[a]!) := Lib.hid (fun x => by rw [← hQ])
      have HR2 := Lib.hid (partLoop_eq ltInt a i j d)
      rw [hP, hQ, HR.out] at HR2
      clear hP hQ HR
      go_upto_block 6 with fail
      go_cut [10] from 99 to 152 (fun s wx => ∃ k2 : Nat, s = .int .i64 k2 ∧ i ≤ k2 ∧ k2 ≤ n ∧ Hid (SI w wx g n d) ∧ Hid (scanUp P d j i = k2))
      case first =>
        go_wp2_with fail
        go_loopg [10] (j + 1 - i) (fun k v wr => ∃ k2 : Nat, v = .int .i64 k2 ∧ i ≤ k2 ∧ k2 ≤ n ∧ k = j + 1 - k2 ∧ Hid (SI w wr g n d) ∧ Hid (scanUp P d j i = scanUp P d j k2))
        case atStart => exact ⟨i, rfl, by omega, by omega, rfl, HI, Lib.hid rfl⟩
        case round =>
          obtain ⟨k2, rfl, h1, h2, hk, HJ, HE⟩ := hrel
          subst hk
          clear HI
          by_cases hij : k2 ≤ j
          · have hd : decide ((k2 : Int) ≤ (j : Int)) = true := by simp; omega
            obtain ⟨p, q, hp, hq, x0, x1, y0, y1, HL, _⟩ := si_two HJ.out (k2) a (by omega) (by omega)
            have hn1 : a < n := by omega
            have hn2 : k2 < n := by omega
            cases huv : ltInt p q with
            | true =>
              rw [huv] at HL
              have hpv : P d[k2]! = true := by rw [HP.out, hp, hq, huv]
              have HE2 : Hid (scanUp P d j i = scanUp P d j (k2 + 1)) := Lib.hid (by rw [HE.out]; exact su_go hij hpv)
              clear hpv huv hp hq HE
              go_upto_region 13 with fail
              go_quiet ((go_at_call 40; exact Calls.quiet_of_same (HL.out _)))
              go_wp2_with fail
              go_roundg (j + 1 - (k2 + 1))
              case measure => omega
              case rel => exact ⟨k2 + 1, by go_num, by omega, by omega, rfl, Lib.hid (HJ.out.drewN _), HE2⟩
            | false =>
              rw [huv] at HL
              have hpv : P d[k2]! = false := by rw [HP.out, hp, hq, huv]
              have HE2 : Hid (scanUp P d j i = k2) := Lib.hid (by rw [HE.out]; exact su_stop (fun _ => hpv))
              clear hpv huv hp hq HE
              go_upto_region 13 with fail
              go_quiet ((go_at_call 40; exact Calls.quiet_of_same (HL.out _)))
              go_wp2_with fail
              go_meet
              exact ⟨k2, rfl, by omega, by omega, Lib.hid (HJ.out.drewN _), HE2⟩
          · have hd : decide ((k2 : Int) ≤ (j : Int)) = false := by simp; omega
            have HE2 : Hid (scanUp P d j i = k2) := Lib.hid (by rw [HE.out]; exact su_stop (fun h => absurd h hij))
            go_upto_region 13 with fail
            go_quiet (fail)
            go_wp2_with fail
            go_meet
            exact ⟨k2, rfl, h1, h2, Lib.hid (HJ.out.drewN _), HE2⟩
      case rest =>
      obtain ⟨i4, rfl, i41, i42, HI2, HE2⟩ := hcut
      clear HI
      go_upto_block 8 with fail
      go_cut [11] from 99 to 152 (fun s wx => ∃ k2 : Nat, s = .int .i64 k2 ∧ k2 ≤ j ∧ k2 < n ∧ Hid (SI w wx g n d) ∧ Hid (scanDown Q d i4 j = k2))
      case first =>
        go_wp2_with fail
        go_loopg [11] (j) (fun k v wr => ∃ k2 : Nat, v = .int .i64 k2 ∧ k2 ≤ j ∧ k2 < n ∧ k = k2 ∧ Hid (SI w wr g n d) ∧ Hid (scanDown Q d i4 j = scanDown Q d i4 k2))
        case atStart => exact ⟨j, rfl, by omega, by omega, rfl, HI2, Lib.hid rfl⟩
        case round =>
          obtain ⟨k2, rfl, h1, h2, hk, HJ, HE⟩ := hrel
          obtain rfl : k2 = gk := hk.symm
          clear HI2
          by_cases hij : i4 ≤ k2
          · obtain ⟨k3, rfl⟩ : ∃ k3, k2 = k3 + 1 := ⟨k2 - 1, by omega⟩
            have hd : decide ((i4 : Int) ≤ (k3 : Int) + 1) = true := by simp; omega
            obtain ⟨p, q, hp, hq, x0, x1, y0, y1, HL, _⟩ := si_two HJ.out (k3 + 1) a (by omega) (by omega)
            have hn1 : a < n := by omega
            have hn2 : k3 + 1 < n := by omega
            cases huv : ltInt p q with
            | true =>
              rw [huv] at HL
              have hpv : Q d[k3 + 1]! = false := by rw [HQ.out, hp, hq, huv]; rfl
              have HE2 : Hid (scanDown Q d i4 j = k3 + 1) := Lib.hid (by rw [HE.out]; exact sd_stop2 (fun _ => hpv))
              clear hpv huv hp hq HE
              go_upto_region 15 with fail
              go_quiet ((go_at_call 40; exact Calls.quiet_of_same (HL.out _)))
              go_wp2_with fail
              go_meet
              exact ⟨k3 + 1, rfl, by omega, by omega, Lib.hid (HJ.out.drewN _), HE2⟩
            | false =>
              rw [huv] at HL
              have hpv : Q d[k3 + 1]! = true := by rw [HQ.out, hp, hq, huv]; rfl
              have HE2 : Hid (scanDown Q d i4 j = scanDown Q d i4 k3) := Lib.hid (by rw [HE.out]; exact sd_go2 hij hpv)
              clear hpv huv hp hq HE
              go_upto_region 15 with fail
              go_quiet ((go_at_call 40; exact Calls.quiet_of_same (HL.out _)))
              go_wp2_with fail
              go_roundg ((k3))
              case measure => omega
              case rel => exact ⟨k3, by go_num, by omega, by omega, rfl, Lib.hid (HJ.out.drewN _), HE2⟩
          · have hd : decide ((i4 : Int) ≤ (k2 : Int)) = false := by simp; omega
            have HE2 : Hid (scanDown Q d i4 j = k2) := Lib.hid (by rw [HE.out]; exact sd_stop2 (fun h => absurd h hij))
            go_upto_region 15 with fail
            go_quiet (fail)
            go_wp2_with fail
            go_meet
            exact ⟨k2, rfl, h1, h2, Lib.hid (HJ.out.drewN _), HE2⟩
      case rest =>
      obtain ⟨j4, rfl, j41, j42, HI3, HE3⟩ := hcut
      clear HI2
      have HR3 := Lib.hid HR2.out
      rw [HE2.out, HE3.out] at HR3
      have hja : a ≤ j4 := by
        have e2 := sd_low Q d a i4 j (by omega) haj
        rwa [HE3.out] at e2
      clear HR2 HE2 HE3 HP HQ
      by_cases hij : j4 < i4
      · have hij2 : (j4 : Int) < (i4 : Int) := by omega
        have HR4 : Hid ((M, E) = (j4, d)) := Lib.hid (by have := HR3.out; rwa [if_pos hij] at this)
        obtain ⟨rfl, rfl⟩ : M = j4 ∧ E = d := by have := HR4.out; injection this with h1 h2; exact ⟨h1, h2⟩
        have HIS := HI3
        clear HR3 HR4 HI3
        obtain ⟨p, q, hp, hq, x0, x1, y0, y1, _, HW⟩ := si_two HIS.out M a (by omega) (by omega)
        have hn1 : a < n := by omega
        have hn3 : M < n := by omega
        rcases Nat.eq_or_lt_of_le hja with he | he
        · subst he
          obtain rfl : p = q := by rw [← hp, ← hq]
          clear hp hq HIS
          go_upto_region 21 with fail
          go_region
          go_wp2_with fail
          go_ret2
          exact ⟨_, false, _, HRS.out, rfl, HW.out.drewN _⟩
        · have hne : ¬ (M = a) := by omega
          clear hp hq HIS
          go_upto_region 21 with fail
          go_region
          go_wp2_with fail
          go_ret2
          exact ⟨_, false, _, HRS.out, rfl, HW.out.drewN _⟩
      · have hij2 : ¬ ((j4 : Int) < (i4 : Int)) := by omega
        have HR4 : Hid (partLoop ltInt a (i4 + 1) (j4 - 1) (swp d i4 j4) = (M, E)) := Lib.hid (by have := HR3.out; rw [if_neg hij] at this; exact this.symm)
        obtain ⟨p, q, hp, hq, x0, x1, y0, y1, _, HW⟩ := si_two HI3.out i4 j4 (by omega) (by omega)
        obtain ⟨j5, rfl⟩ : ∃ j5, j4 = j5 + 1 := ⟨j4 - 1, by omega⟩
        have HR5 : Hid (partLoop ltInt a (i4 + 1) j5 (swp d i4 (j5 + 1)) = (M, E)) := HR4
        have hn1 : i4 < n := by omega
        clear HR3 HR4 HI3
        rcases Nat.eq_or_lt_of_le (show i4 ≤ j5 + 1 by omega) with he | he
        · subst he
          obtain rfl : p = q := by rw [← hp, ← hq]
          clear hp hq
          go_upto_region 18 with fail
          go_region
          go_wp2_with fail
          go_roundg (j5 + 1 - (j5 + 1 + 1))
          case measure => omega
          case rel => exact ⟨j5 + 1 + 1, j5, _, by go_num, by go_num, rfl, by omega, by omega, by omega, by omega, Lib.hid (HW.out.drewN _), HR5⟩
        · have hne : ¬ (i4 = j5 + 1) := by omega
          clear hp hq
          go_upto_region 18 with fail
          go_region
          go_wp2_with fail
          go_roundg (j5 + 1 - (i4 + 1))
          case measure => omega
          case rel => exact ⟨i4 + 1, j5, _, by go_num, by go_num, rfl, by omega, by omega, by omega, by omega, Lib.hid (HW.out.drewN _), HR5⟩
end Go.Proofs.Ytedekcphgcmlnaa
