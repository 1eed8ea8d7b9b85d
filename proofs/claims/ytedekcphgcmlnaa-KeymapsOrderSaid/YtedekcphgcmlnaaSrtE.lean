/- Sorting numbers: turning a part round. -/
import Derived.Test.YtedekcphgcmlnaaSrtA
namespace Go.Proofs.Ytedekcphgcmlnaa
open Go.RowKit Go.Sort

/-- two elements: their values, their comparison, their exchange -/
theorem si_two {w wr : World} {g n : Nat} {d : Array Int} (h : SI w wr g n d) (i j : Nat) (hi : i < n) (hj : j < n) :
    ∃ p q : Int, d[i]! = p ∧ d[j]! = q ∧ wr.cell? ⟨g, i, none⟩ = some (.int .u64 p) ∧ wr.cell? ⟨g, j, none⟩ = some (.int .u64 q) ∧ wr.frozen? ⟨g, i, none⟩ = false ∧ wr.frozen? ⟨g, j, none⟩ = false ∧
      Hid (∀ W, Calls Try.prog 40 #[.int .u64 p, .int .u64 q] W fun e w' => e = .returned (.bool (ltInt p q)) ∧ w' = W) ∧
      Hid (SI w ((wr.setCell ⟨g, i, none⟩ (.int .u64 q)).setCell ⟨g, j, none⟩ (.int .u64 p)) g n (swp d i j)) := by
  have h1 : i < d.size := by rw [h.size]; exact hi
  have h2 : j < d.size := by rw [h.size]; exact hj
  exact ⟨_, _, rfl, rfl, h.row.cell h1, h.row.cell h2, h.row.frozen i, h.row.frozen j, Lib.hid (fun W => less_any _ _ W), Lib.hid (h.swp i j)⟩
set_option maxRecDepth 100000 in
set_option maxHeartbeats 4000000 in
theorem reverse_any {w : World} {g n cap a b : Nat} {d : Array Int} (h : RA w g d) (hn : d.size = n) (hab : a < b) (hb : b ≤ n) (hn2 : n ≤ 1000000) :
    Calls Try.prog 38 #[.slice (some ⟨g, 0, none⟩) n cap, .int .i64 a, .int .i64 b] w fun e w' => e = .returned (.tuple #[]) ∧ ∃ d', SI w w' g n d' ∧ PermIn a b d d' := by
  have H0 : Hid (SI w w g n d ∧ PermIn a b d d) := Lib.hid ⟨⟨h, Fr.refl _ _ _, hn⟩, permIn_refl d a b⟩
  have HN := Lib.hid hn
  obtain ⟨c, rfl⟩ : ∃ c, b = c + 1 := ⟨b - 1, by omega⟩
  clear h hn
  go_enter Try.func38, Try.ntmps38
  go_wp2_with fail
  go_loopw [6, 7] (fun v u wr => ∃ (i j : Nat) (d' : Array Int), v = .int .i64 i ∧ u = .int .i64 j ∧ a ≤ i ∧ i ≤ c + 1 ∧ j ≤ c ∧ Hid (SI w wr g n d' ∧ PermIn a (c + 1) d d')) (fun _ u _ => (intOf u).toNat)
  case atStart => exact ⟨a, c, d, rfl, rfl, Nat.le_refl _, by omega, Nat.le_refl _, H0⟩
  case round =>
    clear H0
    obtain ⟨i, j, d', rfl, rfl, hai, hic, hjc, HI⟩ := hrel
    by_cases hij : i < j
    · have hij2 : (i : Int) < (j : Int) := by omega
      obtain ⟨p, q, _, _, x0, x1, y0, y1, _, HS⟩ := si_two HI.out.1 i j (by omega) (by omega)
      have hne : ¬ (i = j) := by omega
      have HP : Hid (PermIn a (c + 1) d (swp d' i j)) := Lib.hid (permIn_trans _ _ _ _ _ HI.out.2 (swp_permIn d' a (c + 1) i j hai (by omega) (by omega) (by omega) (by rw [HI.out.1.size]; omega)))
      clear HI
      go_upto_region 3 with fail
      go_region
      go_wp2_with fail
      go_roundw
      case rel => exact ⟨i + 1, j - 1, swp d' i j, by rfl, by go_num, by omega, by omega, by omega, Lib.hid ⟨HS.out.drewN _, HP.out⟩⟩
      case measure => simp [intOf]; omega
    · have hij2 : ¬ ((i : Int) < (j : Int)) := by omega
      go_wp2_with fail
      refine bodyPost_end (results_none rfl _ _ _) rfl ?_
      exact ⟨rfl, d', HI.out.1, HI.out.2⟩
end Go.Proofs.Ytedekcphgcmlnaa
