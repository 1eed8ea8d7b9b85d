/- Sorting numbers: the comparison; insertion. -/
import Derived.Test.YtedekcphgcmlnaaKeyW
import Derived.Sort.AssemblyPlain
namespace Go.Proofs.Ytedekcphgcmlnaa
open Go.RowKit Go.Sort

theorem nan_any (x : Int) (w : World) : Calls Try.prog 50 #[.int .u64 x] w fun e w' => e = .returned (.bool false) ∧ w' = w := by
  go_enter Try.func50, Try.ntmps50
  go_wp2
  go_ret
  exact ⟨rfl, rfl⟩
theorem less_any (x y : Int) (w : World) : Calls Try.prog 40 #[.int .u64 x, .int .u64 y] w fun e w' => e = .returned (.bool (ltInt x y)) ∧ w' = w := by
  have h1 := Lib.hid (nan_any x w)
  have hl : ltInt x y = decide (x < y) := rfl
  have HL := Lib.hid hl
  clear hl
  go_enter Try.func40, Try.ntmps40
  go_wp2_with fail
  refine h1.out.mono ?_
  rintro e w1 ⟨rfl, rfl⟩
  go_wp2_with fail
  go_ret
  exact ⟨by rw [HL.out]; rfl, rfl⟩
/-- the row holds d -/
def RA (w : World) (g : Nat) (d : Array Int) : Prop := RU w g d.toList
theorem get_bang {d : Array Int} {i : Nat} (h : i < d.size) : d.toList[i]? = some d[i]! := by
  rw [getElem!_pos d i h, Array.getElem?_toList, Array.getElem?_eq_getElem h]
theorem RA.cell {w : World} {g : Nat} {d : Array Int} (h : RA w g d) {i : Nat} (hi : i < d.size) : w.cell? ⟨g, i, none⟩ = some (.int .u64 d[i]!) := RU.cell h (get_bang hi)
theorem RA.frozen {w : World} {g : Nat} {d : Array Int} (h : RA w g d) (i : Nat) : w.frozen? ⟨g, i, none⟩ = false := RU.frozen h i
theorem RA.swp {w : World} {g : Nat} {d : Array Int} (h : RA w g d) (i j : Nat) : RA ((w.setCell ⟨g, i, none⟩ (.int .u64 d[j]!)).setCell ⟨g, j, none⟩ (.int .u64 d[i]!)) g (swp d i j) := by
  have := RU.set (RU.set h i d[j]!) j d[i]!
  unfold RA Go.Sort.swp
  simpa using this
/-- the row holds d, and only it has changed -/
structure SI (w wr : World) (g : Nat) (n : Nat) (d : Array Int) : Prop where
  row : RA wr g d
  fr : Fr w wr g g
  size : d.size = n
theorem SI.swp {w wr : World} {g n : Nat} {d : Array Int} (h : SI w wr g n d) (i j : Nat) : SI w ((wr.setCell ⟨g, i, none⟩ (.int .u64 d[j]!)).setCell ⟨g, j, none⟩ (.int .u64 d[i]!)) g n (swp d i j) :=
  ⟨h.row.swp i j, (h.fr.setCell (.inl rfl) _).setCell (.inl rfl) _, by rw [swp_size]; exact h.size⟩
theorem SI.drewN {w wr : World} {g n : Nat} {d : Array Int} (h : SI w wr g n d) (k : Nat) : SI w (wr.drewN k) g n d := ⟨h.row, h.fr.drewN k, h.size⟩
/-- what a call that sorts gives -/
def Srt (w : World) (g n : Nat) (d : Array Int) (e : Ending) (w' : World) : Prop := e = .returned (.tuple #[]) ∧ SI w w' g n d

theorem ins_stop {a j : Nat} {d : Array Int} (h : ¬ (a < j) ∨ ltInt d[j]! d[j - 1]! = false) : insInner ltInt a j d = d := by
  cases j with
  | zero => rfl
  | succ j =>
    unfold insInner
    rw [if_neg]
    simp only [Nat.add_sub_cancel] at h
    rcases h with h | h
    · simp; omega
    · simp [h]
theorem ins_go {a j : Nat} {d : Array Int} (h : a < j) (h2 : ltInt d[j]! d[j - 1]! = true) : insInner ltInt a j d = insInner ltInt a (j - 1) (swp d j (j - 1)) := by
  cases j with
  | zero => omega
  | succ j =>
    conv => lhs; unfold insInner
    simp only [Nat.add_sub_cancel] at h2 ⊢
    rw [if_pos]
    simp [h2]; omega
set_option maxRecDepth 100000 in
set_option maxHeartbeats 4000000 in
theorem insertion_any {w : World} {g n cap a b : Nat} {d : Array Int} (h : RA w g d) (hn : d.size = n) (hab : a ≤ b) (hb : b ≤ n) (hn2 : n ≤ 1000000) :
    Calls Try.prog 34 #[.slice (some ⟨g, 0, none⟩) n cap, .int .i64 a, .int .i64 b] w (Srt w g n (insertionSort ltInt d a b)) := by
  have HL := Lib.hid less_any
  have H0 : Hid (SI w w g n d) := Lib.hid ⟨h, Fr.refl _ _ _, hn⟩
  obtain ⟨R, hR⟩ : ∃ R, insertionSort ltInt d a b = R := ⟨_, rfl⟩
  have HR0 : Hid (insOuter ltInt a b (a + 1) d = R) := Lib.hid hR
  rw [hR]
  clear hR h hn
  go_enter Try.func34, Try.ntmps34
  go_wp2_with fail
  go_loopw [6, 7] (fun v _ wr => ∃ (i : Nat) (d : Array Int), v = .int .i64 i ∧ i ≤ b + 1 ∧ a < i ∧ Hid (SI w wr g n d) ∧ Hid (insOuter ltInt a b i d = R)) (fun v _ _ => b + 1 - (intOf v).toNat)
  case atStart => exact ⟨a + 1, d, by rfl, by omega, by omega, H0, HR0⟩
  case round =>
    obtain ⟨i, d, rfl, hi, hai, HI, HR⟩ := hrel
    by_cases hlt : i < b
    · have hlt2 : (i : Int) < (b : Int) := by omega
      have HR2 : Hid (insOuter ltInt a b (i + 1) (insInner ltInt a i d) = R) := Lib.hid (by
        have := HR.out
        unfold insOuter at this
        rwa [if_pos hlt] at this)
      clear HR H0 HR0
      go_wp2_with fail
      rename World => w1
      go_loopw [7] (fun v wr => ∃ (j : Nat) (d : Array Int), v = .int .i64 j ∧ a ≤ j ∧ j ≤ i ∧ Hid (SI w wr g n d) ∧ Hid (insOuter ltInt a b (i + 1) (insInner ltInt a j d) = R)) (fun v _ => (intOf v).toNat)
      case atStart => exact ⟨i, d, rfl, by omega, by omega, HI, HR2⟩
      case round =>
        clear HI HR2
        obtain ⟨j, d, rfl, haj, hji, HI, HR2⟩ := hrel
        by_cases hj : a < j
        · have hjn : j < d.size := by rw [HI.out.size]; omega
          obtain ⟨k, rfl⟩ : ∃ k, j = k + 1 := ⟨j - 1, by omega⟩
          have hj2 : decide ((a : Int) < (k : Int) + 1) = true := by simp; omega
          have x0 := HI.out.row.cell hjn
          have x1 := HI.out.row.cell (show k < d.size by omega)
          have y0 := HI.out.row.frozen (k + 1)
          have y1 := HI.out.row.frozen k
          have hkn : k + 1 < n := by omega
          have hins : ltInt d[k + 1]! d[k]! = true → insInner ltInt a (k + 1) d = insInner ltInt a k (swp d (k + 1) k) := fun h => ins_go hj h
          have hstop : ltInt d[k + 1]! d[k]! = false → insInner ltInt a (k + 1) d = d := fun h => ins_stop (.inr h)
          have HSW := Lib.hid (HI.out.swp (k + 1) k)
          obtain ⟨p, hp⟩ : ∃ p, d[k + 1]! = p := ⟨_, rfl⟩
          obtain ⟨q, hq⟩ : ∃ q, d[k]! = q := ⟨_, rfl⟩
          rw [hp, hq] at hins hstop HSW
          rw [hp] at x0
          rw [hq] at x1
          clear hp hq hjn
          have HL2 := Lib.hid (fun W => HL.out p q W)
          cases hpq : ltInt p q with
          | false =>
            have HR3 : Hid (insOuter ltInt a b (i + 1) d = R) := Lib.hid (by
              have := HR2.out
              rwa [hstop hpq] at this)
            rw [hpq] at HL2
            clear hpq hins hstop
            go_upto_region 4 with fail
            go_quiet ((go_at_call 40; exact Calls.quiet_of_same (HL2.out _)))
            go_wp2_with fail
            go_roundw
            case rel => exact ⟨i + 1, d, by rfl, by omega, by omega, Lib.hid (HI.out.drewN _), HR3⟩
            case measure => simp [intOf]; omega
          | true =>
            have HR3 : Hid (insOuter ltInt a b (i + 1) (insInner ltInt a k (swp d (k + 1) k)) = R) := Lib.hid (by
              have := HR2.out
              rwa [hins hpq] at this)
            rw [hpq] at HL2
            clear hpq hins hstop
            go_upto_region 4 with fail
            go_quiet ((go_at_call 40; exact Calls.quiet_of_same (HL2.out _)))
            go_upto_region 6 with fail
            go_region
            go_wp2_with fail
            go_roundw
            case rel => exact ⟨k, swp d (k + 1) k, by rfl, by omega, by omega, Lib.hid (HSW.out.drewN _), HR3⟩
            case measure => simp [intOf]
        · have hj2 : decide ((a : Int) < (j : Int)) = false := by simp; omega
          have HR3 : Hid (insOuter ltInt a b (i + 1) d = R) := Lib.hid (by
            have := HR2.out
            rwa [ins_stop (.inl hj)] at this)
          go_upto_region 4 with fail
          go_quiet (fail)
          go_wp2_with fail
          go_roundw
          case rel => exact ⟨i + 1, d, by rfl, by omega, by omega, Lib.hid (HI.out.drewN _), HR3⟩
          case measure => simp [intOf]; omega
    · have hlt2 : ¬ ((i : Int) < (b : Int)) := by omega
      have HR2 : Hid (d = R) := Lib.hid (by
        have := HR.out
        unfold insOuter at this
        rwa [if_neg hlt] at this)
      go_wp2_with fail
      refine bodyPost_end (results_none rfl _ _ _) rfl ?_
      exact ⟨rfl, HR2.out ▸ HI.out⟩
end Go.Proofs.Ytedekcphgcmlnaa
