/- Sorting numbers: by the heap. -/
import Derived.Test.YtedekcphgcmlnaaSrtF
namespace Go.Proofs.Ytedekcphgcmlnaa
open Go.RowKit Go.Sort

theorem swp_same (d : Array Int) (i : Nat) (h : i < d.size) : swp d i i = d := by
  unfold swp
  apply Array.ext_getElem?
  intro k
  rw [Array.getElem?_setIfInBounds, Array.getElem?_setIfInBounds]
  by_cases hk : i = k
  · subst hk
    rw [getElem!_pos d i h]
    simp [h]
  · simp [hk]
set_option maxRecDepth 100000 in
set_option maxHeartbeats 8000000 in
theorem heap_any {w : World} {g n cap a b : Nat} {d : Array Int} (h : RA w g d) (hn : d.size = n) (hab : a < b) (hb : b ≤ n) (hn2 : n ≤ 1000000) :
    Calls Try.prog 35 #[.slice (some ⟨g, 0, none⟩) n cap, .int .i64 a, .int .i64 b] w (Srt w g n (heapSort ltInt d a b)) := by
  have H0 : Hid (SI w w g n d) := Lib.hid ⟨h, Fr.refl _ _ _, hn⟩
  obtain ⟨l, hl, hl2⟩ : ∃ l : Nat, (b : Int) - (a : Int) = (l : Int) ∧ b - a = l := ⟨b - a, by omega, rfl⟩
  obtain ⟨m, hm, hm2⟩ : ∃ m : Nat, ((l : Int) - 1) / 2 = (m : Int) ∧ (l - 1) / 2 = m := ⟨(l - 1) / 2, by omega, rfl⟩
  obtain ⟨l1, hl1, hl12⟩ : ∃ l1 : Nat, (l : Int) - 1 = (l1 : Int) ∧ l = l1 + 1 := ⟨l - 1, by omega, by omega⟩
  rw [hl1] at hm
  have hq : (l1 : Int).tdiv 2 = (m : Int) := by rw [Int.tdiv_eq_ediv_of_nonneg (by omega)]; exact hm
  have HSD := Lib.hid (fun W (r hi : Nat) (d' : Array Int) (hd : SI w W g n d') (hf : a + hi ≤ n) (hr : r ≤ n) => sift_any (cap := cap) (r0 := r) (hi := hi) (f := a) hd hf hr hn2)
  obtain ⟨B, hB⟩ : ∃ B, heapBuild ltInt l a (m + 1) d = B := ⟨_, rfl⟩
  obtain ⟨R, hR⟩ : ∃ R, heapSort ltInt d a b = R := ⟨_, rfl⟩
  have HB0 := Lib.hid hB
  have HR0 : Hid (heapPop ltInt a l B = R) := Lib.hid (by
    rw [← hR]
    unfold heapSort
    rw [hl2, hm2, hB])
  rw [hR]
  have hal : a + l ≤ n := by omega
  have hml : m ≤ l1 := by omega
  have b1 : l ≤ 1000000 := by omega
  have b2 : a ≤ 1000000 := by omega
  have HL12 := Lib.hid hl12
  clear h hn hB hR hl2 hm2 hl12 hab hb
  go_enter Try.func35, Try.ntmps35
  go_wp2_with fail
  go_loopw [9] (fun v wr => ∃ (k : Nat) (x : Int) (d' : Array Int), v = .int .i64 x ∧ x = (k : Int) - 1 ∧ k ≤ m + 1 ∧ Hid (SI w wr g n d') ∧ Hid (heapBuild ltInt l a k d' = B)) (fun v _ => (intOf v + 1).toNat)
  case atStart => exact ⟨m + 1, m, d, rfl, by omega, by omega, H0, HB0⟩
  case round =>
    clear H0 HB0
    obtain ⟨k, x, d', rfl, hx, hk, HI, HB⟩ := hrel
    rcases k with _ | k
    · have hx2 : ¬ (0 ≤ x) := by omega
      have HBB : Hid (d' = B) := HB
      have HR1 : Hid (heapPop ltInt a l d' = R) := Lib.hid (by rw [HBB.out]; exact HR0.out)
      clear HR0 HB HBB hx
      go_wp2_with fail
      go_loopw [10] (fun v wr => ∃ (k : Nat) (x : Int) (d' : Array Int), v = .int .i64 x ∧ x = (k : Int) - 1 ∧ k ≤ l ∧ Hid (SI w wr g n d') ∧ Hid (heapPop ltInt a k d' = R)) (fun v _ => (intOf v + 1).toNat)
      case atStart => exact ⟨l, (l1 : Int), d', rfl, by have := HL12.out; omega, Nat.le_refl _, HI, HR1⟩
      case round =>
        clear HI HR1
        obtain ⟨k, y, d', rfl, hy, hk, HI, HP⟩ := hrel
        rcases k with _ | k
        · have hy2 : ¬ (0 ≤ y) := by omega
          have HPP : Hid (d' = R) := HP
          clear hy
          go_wp2_with fail
          refine bodyPost_end (results_none rfl _ _ _) rfl ?_
          exact ⟨rfl, by rw [← HPP.out]; exact HI.out⟩
        · obtain rfl : y = (k : Int) := by omega
          clear hy
          have hk0 : (0 : Int) ≤ (k : Int) := by omega
          obtain ⟨C, hC, hC2⟩ : ∃ C : Nat, (a : Int) + (k : Int) = (C : Int) ∧ C = a + k := ⟨a + k, rfl, rfl⟩
          have wC : IntKind.i64.wrap (C : Int) = (C : Int) := IntWalk.i64_in _ (by omega)
          have HPP : Hid (heapPop ltInt a k (siftDown ltInt k a 0 (swp d' a C)) = R) := Lib.hid (by rw [hC2]; exact HP.out)
          obtain ⟨p, q, hp, hq2, x0, x1, y0, y1, _, HW⟩ := si_two HI.out a C (by omega) (by omega)
          have hCn : C < n := by omega
          have han : a < n := by omega
          have HSD2 := Lib.hid (fun W (hd : SI w W g n (swp d' a C)) => HSD.out W 0 k _ hd (by omega) (by omega))
          rcases Nat.eq_zero_or_pos k with hz | hz
          · subst hz
            obtain rfl : C = a := by omega
            have HW2 : Hid (SI w wr g n (swp d' C C)) := Lib.hid (by rw [swp_same d' C (by rw [HI.out.size]; omega)]; exact HI.out)
            obtain rfl : p = q := by rw [← hp, ← hq2]
            have HW3 := HW
            clear hC2 hp hq2 HP hC HI
            go_upto_region 10 with fail
            go_region
            rename_i _ _ _
            obtain ⟨V, hV⟩ : ∃ V : World, ((wr.setCell ⟨g, C, none⟩ (.int .u64 p)).setCell ⟨g, C, none⟩ (.int .u64 p)).drew = V := ⟨_, rfl⟩
            rw [hV]
            have HVI : SI w V g n (swp d' C C) := by rw [← hV]; exact HW.out.drewN 1
            clear hV
            have HC3 := Lib.hid (HSD2.out V HVI)
            clear HSD2 HVI HW HW2 HW3
            go_wp2_with fail
            refine HC3.out.mono ?_
            rintro e w2 ⟨rfl, hs⟩
            have HS := Lib.hid hs
            clear hs HC3
            go_wp2_with fail
            go_roundw
            case rel => exact ⟨0, (0 : Int) - 1, _, rfl, rfl, by omega, HS, HPP⟩
            case measure => simp [intOf]
          · have hne : ¬ (a = C) := by omega
            clear hC2 hp hq2 HP HI
            go_upto_region 10 with fail
            go_region
            obtain ⟨V, hV⟩ : ∃ V : World, ((wr.setCell ⟨g, a, none⟩ (.int .u64 q)).setCell ⟨g, C, none⟩ (.int .u64 p)).drew = V := ⟨_, rfl⟩
            rw [hV]
            have HVI : SI w V g n (swp d' a C) := by rw [← hV]; exact HW.out.drewN 1
            clear hV
            have HC3 := Lib.hid (HSD2.out V HVI)
            clear HSD2 HVI HW
            go_wp2_with fail
            refine HC3.out.mono ?_
            rintro e w2 ⟨rfl, hs⟩
            have HS := Lib.hid hs
            clear hs HC3
            go_wp2_with fail
            go_roundw
            case rel => exact ⟨k, (k : Int) - 1, _, rfl, rfl, by omega, HS, HPP⟩
            case measure => simp [intOf]
    · obtain rfl : x = (k : Int) := by omega
      clear hx
      have hk0 : (0 : Int) ≤ (k : Int) := by omega
      have HBB : Hid (heapBuild ltInt l a k (siftDown ltInt l a k d') = B) := HB
      have C1 := Lib.hid (HSD.out wr k l d' HI.out hal (by omega))
      clear HI HB
      go_wp2_with fail
      refine C1.out.mono ?_
      rintro e w2 ⟨rfl, hs⟩
      have HS := Lib.hid hs
      clear hs C1
      go_wp2_with fail
      go_roundw
      case rel => exact ⟨k, (k : Int) - 1, _, rfl, rfl, by omega, HS, HBB⟩
      case measure => simp [intOf]
end Go.Proofs.Ytedekcphgcmlnaa
