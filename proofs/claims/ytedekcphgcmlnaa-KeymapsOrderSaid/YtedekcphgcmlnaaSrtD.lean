/- Sorting numbers: the choice of the pivot; turning a part round. -/
import Derived.Test.YtedekcphgcmlnaaSrtC
import Derived.Deep.CutBlock
namespace Go.Proofs.Ytedekcphgcmlnaa
open Go.RowKit Go.Sort

/-- a place in the part and a hint -/
def Piv (w : World) (g n a b : Nat) (d : Array Int) (e : Ending) (w' : World) : Prop :=
  ∃ (x h : Nat), e = .returned (.tuple #[.int .i64 x, .int .i64 h]) ∧ a ≤ x ∧ x < b ∧ h ≤ 2 ∧ SI w w' g n d
theorem SwI.si {w wr : World} {g n : Nat} {d : Array Int} (h : SwI w wr g w.heap.size n d) : SI w wr g n d :=
  ⟨h.row, ⟨h.fr.os, h.fr.tape, h.fr.output, h.fr.size, fun i hi _ _ => h.fr.block i hi (by omega) (by omega)⟩, h.size⟩
theorem piv_nums {a b l q i j k : Nat} (hab : a + 12 < b) (hl : (b : Int) - (a : Int) = (l : Int)) (hq : q = l / 4) (hi : (a : Int) + (q : Int) = (i : Int)) (hj : (a : Int) + (q : Int) * 2 = (j : Int)) (hk : (a : Int) + (q : Int) * 3 = (k : Int)) :
    (a ≤ i ∧ i < b) ∧ (a ≤ j ∧ j < b) ∧ a ≤ k ∧ k < b := by
  have e1 : b = a + l := by omega
  have e2 : i = a + q := by omega
  have e3 : j = a + q * 2 := by omega
  have e4 : k = a + q * 3 := by omega
  clear hl hi hj hk
  subst e1 e2 e3 e4
  have h3 : 4 * q ≤ l := by omega
  clear hq
  refine ⟨⟨?_, ?_⟩, ⟨?_, ?_⟩, ?_, ?_⟩ <;> omega
theorem piv_more {a b l q i j k : Nat} (hab : a + 12 < b) (hl : (b : Int) - (a : Int) = (l : Int)) (hq : q = l / 4) (hi : (a : Int) + (q : Int) = (i : Int)) (hj : (a : Int) + (q : Int) * 2 = (j : Int)) (hk : (a : Int) + (q : Int) * 3 = (k : Int)) (h50 : 50 ≤ l) :
    a < i ∧ i + 1 < b ∧ a < j ∧ j + 1 < b ∧ a < k ∧ k + 1 < b := by
  have e1 : b = a + l := by omega
  have e2 : i = a + q := by omega
  have e3 : j = a + q * 2 := by omega
  have e4 : k = a + q * 3 := by omega
  clear hl hi hj hk
  subst e1 e2 e3 e4
  have h3 : 4 * q ≤ l := by omega
  have h4 : 12 ≤ q := by omega
  clear hq
  refine ⟨?_, ?_, ?_, ?_, ?_, ?_⟩ <;> omega
set_option maxRecDepth 100000 in
set_option maxHeartbeats 8000000 in
theorem pivot_any {w : World} {g n cap a b : Nat} {d : Array Int} (h : RA w g d) (hn : d.size = n) (hab : a + 12 < b) (hb : b ≤ n) (hn2 : n ≤ 1000000) :
    Calls Try.prog 37 #[.slice (some ⟨g, 0, none⟩) n cap, .int .i64 a, .int .i64 b] w (Piv w g n a b d) := by
  obtain ⟨l, hl⟩ : ∃ l : Nat, (b : Int) - (a : Int) = (l : Int) := ⟨b - a, by omega⟩
  obtain ⟨q, hq, hq2⟩ : ∃ q : Nat, (l : Int) / 4 = (q : Int) ∧ q = l / 4 := ⟨l / 4, rfl, rfl⟩
  obtain ⟨i, hi⟩ : ∃ i : Nat, (a : Int) + (q : Int) = (i : Int) := ⟨a + q, by omega⟩
  obtain ⟨j, hj⟩ : ∃ j : Nat, (a : Int) + (q : Int) * 2 = (j : Int) := ⟨a + q * 2, by omega⟩
  obtain ⟨k, hk⟩ : ∃ k : Nat, (a : Int) + (q : Int) * 3 = (k : Int) := ⟨a + q * 3, by omega⟩
  have hgl : g < w.heap.size := heap_lt h
  have H0 : Hid (SwI w (w.alloc (.cells #[.int .i64 0] 3)) g w.heap.size n d) := Lib.hid ⟨h.keep (Below.heap_alloc _ _ g hgl), ⟨0, new_at _ rfl⟩, (Fr.refl _ _ _).alloc _, hn, by omega⟩
  have HM := Lib.hid (fun W (x y z : Nat) (h : SwI w W g w.heap.size n d) (h1 : x < n) (h2 : y < n) (h3 : z < n) => median_any (cap := cap) h h1 h2 h3)
  have HJ := Lib.hid (fun W (x : Nat) (h : SwI w W g w.heap.size n d) (h1 : 0 < x) (h2 : x + 1 < n) => adjacent_any (cap := cap) h h1 h2 hn2)
  obtain ⟨s, hs⟩ : ∃ s : Nat, w.heap.size = s := ⟨_, rfl⟩
  rw [hs] at H0 HM HJ
  have HSI := Lib.hid (fun W (h : SwI w W g s n d) => (show SI w W g n d from SwI.si (hs ▸ h)))
  have HQ := Lib.hid hq2
  have hl8 : (8 : Int) ≤ (l : Int) := by omega
  have HRR := Lib.hid (piv_nums hab hl hq2 hi hj hk)
  have HR2 := Lib.hid (piv_more hab hl hq2 hi hj hk)
  have l1 : l ≤ 1000000 := by omega
  have q1 : q ≤ 1000000 := by omega
  have a1 : a ≤ 1000000 := by omega
  clear h hn hq2 hab HQ
  go_enter Try.func37, Try.ntmps37
  go_upto_region 3 with fail
  obtain ⟨V, hV⟩ : ∃ V : World, w.alloc (.cells #[.int .i64 0] 3) = V := ⟨_, rfl⟩
  rw [hV] at H0 ⊢
  clear hV
  go_upto_region 6 with fail
  clear hi hj hk hq
  by_cases h50 : 50 ≤ l
  · have h50' : (50 : Int) ≤ (l : Int) := by omega
    have C1 := Lib.hid (HJ.out V i H0.out (by have := HR2.out h50; omega) (by have := HR2.out h50; omega))
    go_wp2_with fail
    refine C1.out.mono ?_
    rintro e w1 ⟨x1, rfl, hx1, hs1⟩
    have X1 := Lib.hid hx1
    have C2 := Lib.hid (HJ.out w1 j hs1 (by have := HR2.out h50; omega) (by have := HR2.out h50; omega))
    clear hx1 hs1 C1
    go_wp2_with fail
    refine C2.out.mono ?_
    rintro e w2 ⟨x2, rfl, hx2, hs2⟩
    have X2 := Lib.hid hx2
    have C3 := Lib.hid (HJ.out w2 k hs2 (by have := HR2.out h50; omega) (by have := HR2.out h50; omega))
    clear hx2 hs2 C2
    go_wp2_with fail
    refine C3.out.mono ?_
    rintro e w3 ⟨x3, rfl, hx3, hs3⟩
    have hx : (a ≤ x1 ∧ x1 < b) ∧ (a ≤ x2 ∧ x2 < b) ∧ a ≤ x3 ∧ x3 < b := by
      have e1 := X1.out
      have e2 := X2.out
      have e3 := HR2.out h50
      omega
    have C4 := Lib.hid (HM.out w3 x1 x2 x3 hs3 (by omega) (by omega) (by omega))
    have HXX := Lib.hid hx
    clear hx hx3 hs3 C3
    go_wp2_with fail
    refine C4.out.mono ?_
    rintro e w4 ⟨x4, rfl, hx4, hs4⟩
    have HX4 : Hid (a ≤ x4 ∧ x4 < b) := Lib.hid (by have := HXX.out; omega)
    obtain ⟨z, hz⟩ := hs4.sw
    have s0 : w4.cell? ⟨s, 0, none⟩ = some (.int .i64 z) := cell_of_row _ _ 0 _ 3 (0, 0) hz
    have HS4 := Lib.hid (HSI.out _ hs4)
    clear hx4 hs4 hz C4
    by_cases z0 : z = 0
    · subst z0
      go_wp2_with fail
      go_ret2
      exact ⟨x4, 1, rfl, HX4.out.1, HX4.out.2, by omega, HS4.out⟩
    · by_cases z1 : z = 12
      · subst z1
        go_wp2_with fail
        go_ret2
        exact ⟨x4, 2, rfl, HX4.out.1, HX4.out.2, by omega, HS4.out⟩
      · have z0' : (z == 0) = false := by simpa using z0
        have z1' : (z == 12) = false := by simpa using z1
        go_wp2_with fail
        go_ret2
        exact ⟨x4, 0, rfl, HX4.out.1, HX4.out.2, by omega, HS4.out⟩
  · have h50' : ¬ ((50 : Int) ≤ (l : Int)) := by omega
    have C4 := Lib.hid (HM.out V i j k H0.out (by have := HRR.out; omega) (by have := HRR.out; omega) (by have := HRR.out; omega))
    go_wp2_with fail
    refine C4.out.mono ?_
    rintro e w4 ⟨x4, rfl, hx4, hs4⟩
    have HX4 : Hid (a ≤ x4 ∧ x4 < b) := Lib.hid (by have := HRR.out; omega)
    obtain ⟨z, hz⟩ := hs4.sw
    have s0 : w4.cell? ⟨s, 0, none⟩ = some (.int .i64 z) := cell_of_row _ _ 0 _ 3 (0, 0) hz
    have HS4 := Lib.hid (HSI.out _ hs4)
    clear hx4 hs4 hz C4
    by_cases z0 : z = 0
    · subst z0
      go_wp2_with fail
      go_ret2
      exact ⟨x4, 1, rfl, HX4.out.1, HX4.out.2, by omega, HS4.out⟩
    · by_cases z1 : z = 12
      · subst z1
        go_wp2_with fail
        go_ret2
        exact ⟨x4, 2, rfl, HX4.out.1, HX4.out.2, by omega, HS4.out⟩
      · have z0' : (z == 0) = false := by simpa using z0
        have z1' : (z == 12) = false := by simpa using z1
        go_wp2_with fail
        go_ret2
        exact ⟨x4, 0, rfl, HX4.out.1, HX4.out.2, by omega, HS4.out⟩
end Go.Proofs.Ytedekcphgcmlnaa
