/- The lists of the law SpansKnown. -/
import Derived.Test.YtbkfebnggomhdaaT3Aux
namespace Go.Proofs.Ytbkfebnggomhdaa
open Go.RowKit
def ev (n : Nat) : List Sp := (List.range n).map fun k : Nat => (4 * (k : Int), 4 * (k : Int) + 1)
def od (n : Nat) : List Sp := (List.range n).map fun k : Nat => (4 * (k : Int) + 2, 4 * (k : Int) + 3)
def pl (n : Nat) : List Int := (List.range n).map fun k : Nat => 4 * (k : Int)
theorem ev_succ (n : Nat) : ev (n + 1) = ev n ++ [(4 * (n : Int), 4 * (n : Int) + 1)] := by simp [ev, List.range_succ]
theorem od_succ (n : Nat) : od (n + 1) = od n ++ [(4 * (n : Int) + 2, 4 * (n : Int) + 3)] := by simp [od, List.range_succ]
theorem pl_succ (n : Nat) : pl (n + 1) = pl n ++ [4 * (n : Int)] := by simp [pl, List.range_succ]
theorem ev_len (n : Nat) : (ev n).length = n := by simp [ev]
theorem od_len (n : Nat) : (od n).length = n := by simp [od]
theorem pl_len (n : Nat) : (pl n).length = n := by simp [pl]
theorem ev_take {k n : Nat} (h : k ≤ n) : (ev n).take k = ev k := by simp [ev, ← List.map_take, List.take_range, Nat.min_eq_left h]
theorem od_take {k n : Nat} (h : k ≤ n) : (od n).take k = od k := by simp [od, ← List.map_take, List.take_range, Nat.min_eq_left h]
theorem pl_take {k n : Nat} (h : k ≤ n) : (pl n).take k = pl k := by simp [pl, ← List.map_take, List.take_range, Nat.min_eq_left h]
theorem hasB_ev : ∀ (n : Nat) (i : Int), hasB (ev n) i = decide (0 ≤ i ∧ i < 4 * n ∧ i % 4 = 0)
  | 0, i => by rw [decide_eq_false (by omega)]; rfl
  | n + 1, i => by
    rw [ev_succ, hasB_app, hasB_one, hasB_ev n i, Bool.eq_iff_iff]
    simp only [Bool.or_eq_true, decide_eq_true_eq]
    omega
theorem hasB_od : ∀ (n : Nat) (i : Int), hasB (od n) i = decide (0 ≤ i ∧ i < 4 * n ∧ i % 4 = 2)
  | 0, i => by rw [decide_eq_false (by omega)]; rfl
  | n + 1, i => by
    rw [od_succ, hasB_app, hasB_one, hasB_od n i, Bool.eq_iff_iff]
    simp only [Bool.or_eq_true, decide_eq_true_eq]
    omega
theorem mem_pl : ∀ (n : Nat) (i : Int), decide (i ∈ pl n) = decide (0 ≤ i ∧ i < 4 * n ∧ i % 4 = 0)
  | 0, i => by rw [decide_eq_false (p := 0 ≤ i ∧ i < 4 * ((0 : Nat) : Int) ∧ i % 4 = 0) (by omega)]; simp [pl]
  | n + 1, i => by
    have ih := mem_pl n i
    rw [decide_eq_decide] at ih
    rw [pl_succ, decide_eq_decide, List.mem_append, List.mem_singleton, ih]
    omega
theorem val_ev : ∀ n : Nat, n ≤ 5000 → Val (-1) (ev n) ∧ endOf (-1) (ev n) < 4 * n
  | 0, _ => ⟨trivial, by show (-1 : Int) < _; omega⟩
  | n + 1, h => by
    obtain ⟨h1, h2⟩ := val_ev n (by omega)
    rw [ev_succ, endOf_snoc]
    exact ⟨val_snoc.2 ⟨h1, h2, by show (4 * (n : Int)) < 4 * n + 1; omega, by show 4 * (n : Int) + 1 ≤ _; omega⟩, by show 4 * (n : Int) + 1 < _; omega⟩
theorem val_od : ∀ n : Nat, n ≤ 5000 → Val (-1) (od n) ∧ endOf (-1) (od n) < 4 * n
  | 0, _ => ⟨trivial, by show (-1 : Int) < _; omega⟩
  | n + 1, h => by
    obtain ⟨h1, h2⟩ := val_od n (by omega)
    rw [od_succ, endOf_snoc]
    exact ⟨val_snoc.2 ⟨h1, by show _ < 4 * (n : Int) + 2; omega, by show (4 * (n : Int) + 2) < 4 * n + 3; omega, by show 4 * (n : Int) + 3 ≤ _; omega⟩, by show 4 * (n : Int) + 3 < _; omega⟩
/-- n spans of the one row, and between them the first j of the other -/
def mx : Nat → Nat → List Sp
  | 0, _ => []
  | n + 1, j => if n < j then (mx n j ++ [(4 * (n : Int), 4 * (n : Int) + 1)]) ++ [(4 * (n : Int) + 2, 4 * (n : Int) + 3)] else mx n j ++ [(4 * (n : Int), 4 * (n : Int) + 1)]
theorem mx_all (j : Nat) : ∀ n : Nat, n ≤ 5000 → Val (-1) (mx n j) ∧ endOf (-1) (mx n j) < 4 * n ∧ (mx n j).length = n + min n j ∧ ∀ i, hasB (mx n j) i = (decide (0 ≤ i ∧ i < 4 * n ∧ i % 4 = 0) || decide (0 ≤ i ∧ i < 4 * n ∧ i < 4 * j ∧ i % 4 = 2))
  | 0, _ => ⟨trivial, by show (-1 : Int) < _; omega, by simp [mx], fun i => by rw [decide_eq_false (by omega), decide_eq_false (by omega)]; rfl⟩
  | n + 1, h => by
    obtain ⟨h1, h2, h3, h4⟩ := mx_all j n (by omega)
    unfold mx
    have v1 : Val (-1) (mx n j ++ [(4 * (n : Int), 4 * (n : Int) + 1)]) := val_snoc.2 ⟨h1, h2, by show (4 * (n : Int)) < 4 * n + 1; omega, by show 4 * (n : Int) + 1 ≤ _; omega⟩
    by_cases hj : n < j
    · rw [if_pos hj]
      refine ⟨val_snoc.2 ⟨v1, by rw [endOf_snoc]; show 4 * (n : Int) + 1 < 4 * (n : Int) + 2; omega, by show (4 * (n : Int) + 2) < 4 * n + 3; omega, by show 4 * (n : Int) + 3 ≤ _; omega⟩, by rw [endOf_snoc]; show 4 * (n : Int) + 3 < _; omega, by simp only [List.length_append, List.length_singleton, h3]; omega, fun i => ?_⟩
      rw [hasB_app, hasB_app, hasB_one, hasB_one, h4 i, Bool.eq_iff_iff]
      simp only [Bool.or_eq_true, decide_eq_true_eq]
      omega
    · rw [if_neg hj]
      refine ⟨v1, by rw [endOf_snoc]; show 4 * (n : Int) + 1 < _; omega, by simp only [List.length_append, List.length_singleton, h3]; omega, fun i => ?_⟩
      rw [hasB_app, hasB_one, h4 i, Bool.eq_iff_iff]
      simp only [Bool.or_eq_true, decide_eq_true_eq]
      omega
theorem mx_or {n j : Nat} (h : n ≤ 5000) (hj : j ≤ n) (i : Int) : (hasB (ev n) i || hasB (od j) i) = hasB (mx n j) i := by
  rw [hasB_ev, hasB_od, (mx_all j n h).2.2.2 i, Bool.eq_iff_iff]
  simp only [Bool.or_eq_true, decide_eq_true_eq]
  omega
/-- the widened row, and what it becomes -/
def wd (n : Nat) : List Sp := ev n ++ [(4 * (n : Int), 4 * (n : Int) + 3)]
def wd2 (n : Nat) : List Sp := ev (n + 1) ++ [(4 * (n : Int) + 2, 4 * (n : Int) + 4)]
theorem val_wd (n : Nat) (h : n ≤ 5000) : Val (-1) (wd n) := by
  obtain ⟨h1, h2⟩ := val_ev n h
  exact val_snoc.2 ⟨h1, h2, by show 4 * (n : Int) < 4 * (n : Int) + 3; omega, by show 4 * (n : Int) + 3 ≤ _; omega⟩
theorem end_wd (n : Nat) : endOf (-1) (wd n) = 4 * (n : Int) + 3 := endOf_snoc
theorem val_wd2 (n : Nat) (h : n < 5000) : Val (-1) (wd2 n) := by
  obtain ⟨h1, h2⟩ := val_ev (n + 1) h
  have h3 : endOf (-1) (ev (n + 1)) = 4 * (n : Int) + 1 := by rw [ev_succ, endOf_snoc]
  exact val_snoc.2 ⟨h1, by rw [h3]; show 4 * (n : Int) + 1 < 4 * (n : Int) + 2; omega, by show 4 * (n : Int) + 2 < 4 * (n : Int) + 4; omega, by show 4 * (n : Int) + 4 ≤ _; omega⟩
theorem ins_wd (n : Nat) (i : Int) : insM (wd n) (4 * (n : Int) + 1) 1 i = hasB (wd2 n) i := by
  unfold insM wd wd2
  rw [hasB_app, hasB_app, hasB_app, hasB_one, hasB_one, hasB_one, hasB_ev, hasB_ev, hasB_ev]
  by_cases h1 : i < 4 * (n : Int) + 1
  · rw [if_pos h1, Bool.eq_iff_iff]; simp only [Bool.or_eq_true, decide_eq_true_eq]; omega
  · rw [if_neg h1]
    by_cases h2 : i < 4 * (n : Int) + 1 + 1
    · rw [if_pos h2, Bool.eq_iff_iff]; simp only [Bool.or_eq_true, decide_eq_true_eq, Bool.false_eq_true, false_iff]; omega
    · rw [if_neg h2, Bool.eq_iff_iff]; simp only [Bool.or_eq_true, decide_eq_true_eq]; omega
theorem wd2_len (n : Nat) : (wd2 n).length = n + 2 := by unfold wd2; rw [List.length_append, ev_len]; rfl
theorem wd_len (n : Nat) : (wd n).length = n + 1 := by unfold wd; rw [List.length_append, ev_len]; rfl
theorem wd_set (n : Nat) : (ev (n + 1)).set n (4 * (n : Int), 4 * (n : Int) + 3) = wd n := by
  rw [ev_succ, List.set_append_right _ _ (by rw [ev_len]; exact Nat.le_refl _), ev_len, Nat.sub_self]; rfl
/-- a set of too many spans is refused -/
theorem OpRes.big {c : Int} {m : Int → Bool} {e : Ending} {w' : World} (h : OpRes c m e w') (hc : c = 0) (L : List Sp) (hv : Val (-1) L) (hm : ∀ i, m i = hasB L i) (hl : 4096 < L.length) :
    e = .returned (.tuple #[.slice none 0 0, .int .i64 3]) := by
  rcases h with ⟨_, out, ho, hi, hr⟩ | ⟨hne, _⟩
  · obtain rfl : out = L := val_ext ho hv (fun i => (hi i).trans (hm i))
    rcases hr with ⟨hbad, _⟩ | ⟨_, he⟩
    · omega
    · exact he
  · exact absurd hc hne
theorem chk_big {xs : List Sp} (h : 4096 < xs.length) : chk xs = 3 := by unfold chk; rw [if_pos h]
theorem pl_in (n : Nat) (h : n ≤ 5000) : InR (pl n) := fun z hz => by
  have := mem_pl n z
  rw [decide_eq_decide] at this
  have := this.1 hz
  omega
attribute [irreducible] ev od pl mx wd wd2
end Go.Proofs.Ytbkfebnggomhdaa
