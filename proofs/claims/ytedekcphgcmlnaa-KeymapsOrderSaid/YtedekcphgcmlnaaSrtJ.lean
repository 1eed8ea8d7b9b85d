/- Sorting numbers: a few steps of insertion. -/
import Derived.Test.YtedekcphgcmlnaaSrtI
namespace Go.Proofs.Ytedekcphgcmlnaa
open Go.RowKit Go.Sort

theorem ss_go {d : Array Int} {b i : Nat} (h : i < b) (hp : ltInt d[i]! d[i - 1]! = false) : scanSorted ltInt d b i = scanSorted ltInt d b (i + 1) := by
  rw [scanSorted, if_pos (by simp [h, hp])]
theorem ss_stop {d : Array Int} {b i : Nat} (h : i < b → ltInt d[i]! d[i - 1]! = true) : scanSorted ltInt d b i = i := by
  rw [scanSorted, if_neg]
  simp only [Bool.and_eq_true, decide_eq_true_eq]
  rintro ⟨h1, h2⟩
  rw [h h1] at h2
  cases h2
theorem sh_go {d : Array Int} {j : Nat} (hp : ltInt d[j + 1]! d[j]! = true) : shiftDown ltInt (j + 1) d = shiftDown ltInt j (swp d (j + 1) j) := by
  rw [shiftDown, hp]; rfl
theorem sh_stop {d : Array Int} {j : Nat} (hp : ltInt d[j + 1]! d[j]! = false) : shiftDown ltInt (j + 1) d = d := by
  rw [shiftDown, hp]; rfl
theorem su2_go {d : Array Int} {b j : Nat} (h : j < b) (hp : ltInt d[j]! d[j - 1]! = true) : shiftUp ltInt b j d = shiftUp ltInt b (j + 1) (swp d j (j - 1)) := by
  rw [shiftUp, if_pos h, hp]; rfl
theorem su2_stop {d : Array Int} {b j : Nat} (h : j < b → ltInt d[j]! d[j - 1]! = false) : shiftUp ltInt b j d = d := by
  rw [shiftUp]
  by_cases hj : j < b
  · rw [if_pos hj, h hj]; rfl
  · rw [if_neg hj]
theorem pi_step {a b s i i2 : Nat} {d : Array Int} (h : scanSorted ltInt d b i = i2) :
    partialIns ltInt a b (s + 1) i d = if i2 = b then (d, true) else if b - a < 50 then (d, false) else
      partialIns ltInt a b s i2 (if b - i2 ≥ 2 then shiftUp ltInt b (i2 + 1) (if i2 - a ≥ 2 then shiftDown ltInt (i2 - 1) (swp d i2 (i2 - 1)) else swp d i2 (i2 - 1)) else (if i2 - a ≥ 2 then shiftDown ltInt (i2 - 1) (swp d i2 (i2 - 1)) else swp d i2 (i2 - 1))) := by
  subst h
  rfl
/-- the part, and whether it is in order -/
def Pin (w : World) (g n : Nat) (R : Array Int × Bool) (e : Ending) (w' : World) : Prop := e = .returned (.bool R.2) ∧ SI w w' g n R.1
set_option maxRecDepth 100000 in
set_option maxHeartbeats 8000000 in
theorem partial_any {w : World} {g n cap a b : Nat} {d : Array Int} (h : RA w g d) (hn : d.size = n) (hab : a < b) (hb : b ≤ n) (hn2 : n ≤ 1000000) :
    Calls Try.prog 39 #[.slice (some ⟨g, 0, none⟩) n cap, .int .i64 a, .int .i64 b] w (Pin w g n (partialInsertionSort ltInt d a b)) := by
  have H0 : Hid (SI w w g n d) := Lib.hid ⟨h, Fr.refl _ _ _, hn⟩
  obtain ⟨R, hR⟩ : ∃ R, partialInsertionSort ltInt d a b = R := ⟨_, rfl⟩
  have HR0 : Hid (partialIns ltInt a b 5 (a + 1) d = R) := Lib.hid hR
  rw [hR]
  clear h hn hR
  go_enter Try.func39, Try.ntmps39
  go_upto_block 0 with fail
  go_wp2_with fail
  go_loopg [7, 8] 5 (fun k v u wr => ∃ (i j : Nat) (d : Array Int), v = .int .i64 i ∧ u = .int .i64 j ∧ j + k = 5 ∧ a < i ∧ i ≤ b ∧ Hid (SI w wr g n d) ∧ Hid (partialIns ltInt a b k i d = R))
  case atStart => exact ⟨a + 1, 0, d, by rfl, by rfl, rfl, by omega, by omega, H0, HR0⟩
  case round =>
    clear H0 HR0
    obtain ⟨i, j, d, rfl, rfl, hjk, hai, hib, HI, HR⟩ := hrel
    rcases gk with _ | s
    · have hj5 : ¬ ((j : Int) < 5) := by omega
      have HR1 : Hid ((d, false) = R) := HR
      clear HR hjk
      go_wp2_with fail
      go_ret
      have hf := HR1.out
      subst hf
      exact ⟨rfl, HI.out⟩
    · have hj5 : (j : Int) < 5 := by omega
      have hj6 : j ≤ 4 := by omega
      have HJK := Lib.hid hjk
      clear hjk
      go_upto_block 2 with fail
      go_cut [7] from 13 to 132 (fun s wx => ∃ k2 : Nat, s = .int .i64 k2 ∧ i ≤ k2 ∧ k2 ≤ b ∧ Hid (SI w wx g n d) ∧ Hid (scanSorted ltInt d b i = k2))
      case first =>
        clear HR HJK hj5 hj6
        go_wp2_with fail
        go_loopg [7] (b - i) (fun k v wr => ∃ k2 : Nat, v = .int .i64 k2 ∧ i ≤ k2 ∧ k2 ≤ b ∧ k = b - k2 ∧ Hid (SI w wr g n d) ∧ Hid (scanSorted ltInt d b i = scanSorted ltInt d b k2))
        case atStart => exact ⟨i, rfl, by omega, by omega, rfl, HI, Lib.hid rfl⟩
        case round =>
          obtain ⟨k2, rfl, h1, h2, hk, HJ, HE⟩ := hrel
          subst hk
          clear HI
          by_cases hij : k2 < b
          · obtain ⟨k3, rfl⟩ : ∃ k3, k2 = k3 + 1 := ⟨k2 - 1, by omega⟩
            have hd : decide ((k3 : Int) + 1 < (b : Int)) = true := by simp; omega
            obtain ⟨p, q, hp, hq, x0, x1, y0, y1, HL, _⟩ := si_two HJ.out (k3 + 1) k3 (by omega) (by omega)
            have hn1 : k3 + 1 < n := by omega
            cases huv : ltInt p q with
            | false =>
              rw [huv] at HL
              have HE2 : Hid (scanSorted ltInt d b i = scanSorted ltInt d b (k3 + 1 + 1)) := Lib.hid (by rw [HE.out]; exact ss_go hij (by rw [Nat.add_sub_cancel, hp, hq, huv]))
              clear huv hp hq HE
              go_upto_region 5 with fail
              go_quiet ((go_at_call 40; exact Calls.quiet_of_same (HL.out _)))
              go_wp2_with fail
              go_roundg (b - (k3 + 1 + 1))
              case measure => omega
              case rel => exact ⟨k3 + 1 + 1, by go_num, by omega, by omega, rfl, Lib.hid (HJ.out.drewN _), HE2⟩
            | true =>
              rw [huv] at HL
              have HE2 : Hid (scanSorted ltInt d b i = k3 + 1) := Lib.hid (by rw [HE.out]; exact ss_stop (fun _ => by rw [Nat.add_sub_cancel, hp, hq, huv]))
              clear huv hp hq HE
              go_upto_region 5 with fail
              go_quiet ((go_at_call 40; exact Calls.quiet_of_same (HL.out _)))
              go_wp2_with fail
              go_meet
              exact ⟨k3 + 1, rfl, by omega, by omega, Lib.hid (HJ.out.drewN _), HE2⟩
          · have hd : decide ((k2 : Int) < (b : Int)) = false := by simp; omega
            have HE2 : Hid (scanSorted ltInt d b i = k2) := Lib.hid (by rw [HE.out]; exact ss_stop (fun h => absurd h hij))
            go_upto_region 5 with fail
            go_quiet (fail)
            go_wp2_with fail
            go_meet
            exact ⟨k2, rfl, h1, h2, Lib.hid (HJ.out.drewN _), HE2⟩
      case rest =>
      obtain ⟨i2, rfl, h1, h2, HI2, HE⟩ := hcut
      have HR2 := Lib.hid (pi_step (a := a) (s := s) HE.out)
      rw [HR.out] at HR2
      clear HI HR HE
      obtain ⟨i3, rfl⟩ : ∃ i3, i2 = i3 + 1 := ⟨i2 - 1, by omega⟩
      by_cases hib2 : i3 + 1 = b
      · have hib3 : ((i3 : Int) + 1 == (b : Int)) = true := by simp; omega
        have HR3 : Hid (R = (d, true)) := Lib.hid (by have := HR2.out; rwa [if_pos hib2] at this)
        clear HR2
        go_wp2_with fail
        go_ret
        have hf := HR3.out
        subst hf
        exact ⟨rfl, HI2.out⟩
      · have hib3 : ((i3 : Int) + 1 == (b : Int)) = false := by simp; omega
        by_cases h50 : b - a < 50
        · have h51 : (b : Int) - (a : Int) < 50 := by omega
          have HR3 : Hid (R = (d, false)) := Lib.hid (by have := HR2.out; rwa [if_neg hib2, if_pos h50] at this)
          clear HR2
          go_wp2_with fail
          go_ret
          have hf := HR3.out
          subst hf
          exact ⟨rfl, HI2.out⟩
        · have h51 : ¬ ((b : Int) - (a : Int) < 50) := by omega
          obtain ⟨D1, hD1⟩ : ∃ D1, swp d (i3 + 1) i3 = D1 := ⟨_, rfl⟩
          obtain ⟨D2, hD2⟩ : ∃ D2, (if i3 + 1 - a ≥ 2 then shiftDown ltInt i3 D1 else D1) = D2 := ⟨_, rfl⟩
          obtain ⟨D3, hD3⟩ : ∃ D3, (if b - (i3 + 1) ≥ 2 then shiftUp ltInt b (i3 + 1 + 1) D2 else D2) = D3 := ⟨_, rfl⟩
          have HR3 : Hid (R = partialIns ltInt a b s (i3 + 1) D3) := Lib.hid (by
            have := HR2.out
            rw [if_neg hib2, if_neg h50] at this
            simp only [Nat.add_sub_cancel] at this
            rw [hD1, hD2, hD3] at this
            exact this)
          have HD2 := Lib.hid hD2
          have HD3 := Lib.hid hD3
          clear HR2 hD2 hD3
          obtain ⟨p, q, hp, hq, x0, x1, y0, y1, _, HW⟩ := si_two HI2.out (i3 + 1) i3 (by omega) (by omega)
          rw [hD1] at HW
          have hn1 : i3 + 1 < n := by omega
          clear hp hq HI2 hD1 h50
          go_upto_region 11 with fail
          go_region
          go_upto_region 12 with fail
          obtain ⟨V, hV⟩ : ∃ V : World, ((wc.setCell ⟨g, i3 + 1, none⟩ (.int .u64 q)).setCell ⟨g, i3, none⟩ (.int .u64 p)).drew = V := ⟨_, rfl⟩
          rw [hV]
          have HV : Hid (SI w V g n D1) := Lib.hid (by rw [← hV]; exact HW.out.drewN 1)
          clear hV HW x0 x1 y0 y1
          go_upto_if 61 with fail
          go_cut [9] from 13 to 132 (fun _ wx => Hid (SI w wx g n D2))
          case first =>
            clear HR3 HD3 HJK hj5 hj6 h51 hib3
            by_cases h2 : i3 + 1 - a ≥ 2
            · have h22 : (2 : Int) ≤ (i3 : Int) + 1 - (a : Int) := by omega
              have HS : Hid (shiftDown ltInt i3 D1 = D2) := Lib.hid (by have := HD2.out; rwa [if_pos h2] at this)
              clear HD2
              go_upto_block 4 with fail
              go_wp2_with fail
              go_loopg [9] i3 (fun k v wr => ∃ (d : Array Int), v = .int .i64 k ∧ k ≤ i3 ∧ Hid (SI w wr g n d) ∧ Hid (shiftDown ltInt k d = D2))
              case atStart => exact ⟨D1, by go_num, by omega, HV, HS⟩
              case round =>
                clear HV HS
                obtain ⟨d, rfl, hk, HI, HS⟩ := hrel
                rcases gk with _ | k
                · have h11 : ¬ ((1 : Int) ≤ 0) := by omega
                  have HS1 : Hid (d = D2) := HS
                  go_wp2_with fail
                  go_meet
                  have hf := HS1.out
                  subst hf
                  exact HI
                · have h11 : (1 : Int) ≤ (k : Int) + 1 := by omega
                  obtain ⟨p, q, hp, hq, x0, x1, y0, y1, HL, HW⟩ := si_two HI.out (k + 1) k (by omega) (by omega)
                  have hn1 : k + 1 < n := by omega
                  cases huv : ltInt p q with
                  | false =>
                    rw [huv] at HL
                    have HS1 : Hid (d = D2) := Lib.hid (by have := HS.out; rwa [sh_stop (by rw [hp, hq, huv])] at this)
                    clear huv hp hq HS HW
                    go_upto_region 16 with fail
                    go_quiet ((go_at_call 40; exact Calls.quiet_of_same (HL.out _)))
                    go_wp2_with fail
                    go_meet
                    have hf := HS1.out
                    subst hf
                    exact Lib.hid (HI.out.drewN _)
                  | true =>
                    rw [huv] at HL
                    have HS1 : Hid (shiftDown ltInt k (swp d (k + 1) k) = D2) := Lib.hid (by have := HS.out; rwa [sh_go (by rw [hp, hq, huv])] at this)
                    clear huv hp hq HS HI
                    go_upto_region 16 with fail
                    go_quiet ((go_at_call 40; exact Calls.quiet_of_same (HL.out _)))
                    go_upto_region 17 with fail
                    go_region
                    go_wp2_with fail
                    go_roundg k
                    case measure => omega
                    case rel => exact ⟨swp d (k + 1) k, by go_num, by omega, Lib.hid (HW.out.drewN _), HS1⟩
            · have h22 : ¬ ((2 : Int) ≤ (i3 : Int) + 1 - (a : Int)) := by omega
              have HS : Hid (D1 = D2) := Lib.hid (by have := HD2.out; rwa [if_neg h2] at this)
              clear HD2
              go_wp2_with fail
              go_meet
              rw [← HS.out]
              exact HV
          case rest =>
          have HV2 := Lib.hid hcut.out
          clear hcut HV HD2
          have HF : Hid (j + 1 + s = 5 ∧ Hid (partialIns ltInt a b s (i3 + 1) D3 = R)) := Lib.hid ⟨by have := HJK.out; omega, Lib.hid HR3.out.symm⟩
          clear HR3 HJK hj5 h51 hib3
          by_cases h2 : b - (i3 + 1) ≥ 2
          · have h22 : (2 : Int) ≤ (b : Int) - ((i3 : Int) + 1) := by omega
            have HS : Hid (shiftUp ltInt b (i3 + 1 + 1) D2 = D3) := Lib.hid (by have := HD3.out; rwa [if_pos h2] at this)
            clear HD3
            go_upto_block 6 with fail
            go_wp2_with fail
            go_loopg [10] (b - (i3 + 1)) (fun k v wr => ∃ (m : Nat) (d : Array Int), v = .int .i64 (m + 1 : Nat) ∧ k = b - m ∧ m < b ∧ Hid (SI w wr g n d) ∧ Hid (shiftUp ltInt b (m + 1) d = D3))
            case atStart => exact ⟨i3 + 1, D2, by go_num, by omega, by omega, HV2, HS⟩
            case round =>
              clear HV2 HS
              obtain ⟨m, d, rfl, hk, hmb, HI, HS⟩ := hrel
              subst hk
              by_cases hm : m + 1 < b
              · have hm2 : (m : Int) + 1 < (b : Int) := by omega
                obtain ⟨p, q, hp, hq, x0, x1, y0, y1, HL, HW⟩ := si_two HI.out (m + 1) m (by omega) (by omega)
                have hn1 : m + 1 < n := by omega
                cases huv : ltInt p q with
                | false =>
                  rw [huv] at HL
                  have HS1 : Hid (d = D3) := Lib.hid (by have := HS.out; rwa [su2_stop (fun _ => by rw [Nat.add_sub_cancel, hp, hq, huv])] at this)
                  clear huv hp hq HS HW
                  go_upto_region 22 with fail
                  go_quiet ((go_at_call 40; exact Calls.quiet_of_same (HL.out _)))
                  go_wp2_with fail
                  go_roundg s
                  case measure => omega
                  case rel => exact ⟨i3 + 1, j + 1, D3, by go_num, by go_num, HF.out.1, by omega, by omega, Lib.hid (by have hf := HS1.out; subst hf; exact HI.out.drewN _), HF.out.2⟩
                | true =>
                  rw [huv] at HL
                  have HS1 : Hid (shiftUp ltInt b (m + 1 + 1) (swp d (m + 1) m) = D3) := Lib.hid (by have := HS.out; rw [su2_go hm (by rw [Nat.add_sub_cancel, hp, hq, huv])] at this; rwa [Nat.add_sub_cancel] at this)
                  clear huv hp hq HS HI
                  go_upto_region 22 with fail
                  go_quiet ((go_at_call 40; exact Calls.quiet_of_same (HL.out _)))
                  go_upto_region 23 with fail
                  go_region
                  go_wp2_with fail
                  go_roundg (b - (m + 1))
                  case measure => omega
                  case rel => exact ⟨m + 1, swp d (m + 1) m, by go_num, by omega, by omega, Lib.hid (HW.out.drewN _), HS1⟩
              · have hm2 : ¬ ((m : Int) + 1 < (b : Int)) := by omega
                have HS1 : Hid (d = D3) := Lib.hid (by have := HS.out; rwa [su2_stop (fun h => absurd h hm)] at this)
                go_wp2_with fail
                go_roundg s
                case measure => omega
                case rel => exact ⟨i3 + 1, j + 1, D3, by go_num, by go_num, HF.out.1, by omega, by omega, Lib.hid (by have hf := HS1.out; subst hf; exact HI.out), HF.out.2⟩
          · have h22 : ¬ ((2 : Int) ≤ (b : Int) - ((i3 : Int) + 1)) := by omega
            have HS : Hid (D2 = D3) := Lib.hid (by have := HD3.out; rwa [if_neg h2] at this)
            clear HD3
            go_wp2_with fail
            go_roundg s
            case measure => omega
            case rel => exact ⟨i3 + 1, j + 1, D3, by go_num, by go_num, HF.out.1, by omega, by omega, Lib.hid (by rw [← HS.out]; exact HV2.out), HF.out.2⟩
end Go.Proofs.Ytedekcphgcmlnaa
