/- The lists of the law SizesKnown. -/
import Derived.Test.YtdejdnkkbpmmlaaMLw3W
import Derived.Test.YtdejdnkkbpmmlaaMMvC
import Derived.Deep.OwnRows
namespace Go.Proofs.Ytdejdnkkbpmmlaa
open Go.RowKit

theorem Try.info2 : (Try.prog.info? 2).map (fun i => (i.zero, i.size, i.bytes)) = some (some (.int .i64 0), 1, 8) := by kernel_rfl
theorem madeCells_ints (n : Nat) : madeCells #[.int .i64 0] n = ints (List.replicate n 0) := by
  unfold ints madeCells
  apply Array.ext'
  simp only [Array.toList_map, Array.toList_range]
  apply List.ext_getElem?
  intro i
  simp [List.getElem?_replicate]
  by_cases h : i < n
  · simp [h, Nat.mod_one]
  · simp [h]
set_option maxRecDepth 100000 in
theorem make_ints (x : Int) (n : Nat) (e : x = n) (h : n ≤ 100000) (w : World) :
    (Instr.makeSlice 53 (.int .i64 x) (.int .i64 x)).run Try.prog w = .ok (.slice (some ⟨w.heap.size, 0, none⟩) n n) (w.alloc (.cells (ints (List.replicate n 0)) 2)) := by
  subst e
  rw [← madeCells_ints]
  exact run_make_row' 53 2 (.int .i64 0) 8 Try.underlying53 Try.info2 rfl .i64 .i64 n (by omega) (by omega) w
theorem ints_set (s : List Int) (k : Nat) (v : Int) : (ints s).setIfInBounds k (.int .i64 v) = ints (s.set k v) := by
  unfold ints
  apply Array.ext'
  simp [List.map_set]
theorem row_set {w : World} {S : Nat} {s : List Int} (h : w.heap[S]? = some (.cells (ints s) 2 (0, 0))) (k : Nat) (v : Int) : (w.setCell ⟨S, k, none⟩ (.int .i64 v)).heap[S]? = some (.cells (ints (s.set k v)) 2 (0, 0)) := by
  rw [← ints_set]
  simp [World.setCell, Array.getElem?_modify, h]
theorem rdI_row {w : World} {g : Nat} {l : List Int} (h : w.heap[g]? = some (.cells (ints l) 2 (0, 0))) : RdI w w.heap.size (some ⟨g, 0, none⟩) l := fun k hk => by
  refine ⟨g, 0, rfl, heap_lt h, ?_⟩
  rw [cell_of_row w g (0 + k) _ 2 (0, 0) h]
  simp [ints, hk]
theorem rdI_take {w : World} {B : Nat} {A : Option Addr} {l : List Int} (h : RdI w B A l) (m : Nat) : RdI w B A (l.take m) := fun k hk => by
  have hk' : k < l.length := by simp at hk; omega
  obtain ⟨b, o, e, h1, h2⟩ := h k hk'
  exact ⟨b, o, e, h1, by rw [h2, List.getElem_take]⟩

/-- the sizes 1, 2, 3, 1, 2 .. -/
structure IsK (l : List Int) : Prop where
  len : l.length = 1025
  at_ : ∀ k (h : k < l.length), l[k] = 1 + ((k % 3 : Nat) : Int)
def lK : List Int := (List.range 1025).map fun k => 1 + ((k % 3 : Nat) : Int)
theorem isK : IsK lK := ⟨by simp [lK], fun k h => by simp [lK]⟩
/-- their rows, none of them known -/
def rK : List (Int × Bool) := (lK.take 1024).map fun x => (x, false)
theorem rK_len : rK.length = 1024 := by simp [rK, lK]
theorem rK_sum : (sz rK).sum = 2047 := by decide +kernel
theorem kn_false {r : List (Int × Bool)} (h : ∀ x ∈ r, x.2 = false) (k : Nat) : kn r k = false := by
  rw [kn_nat, List.getD]
  cases hk : r[k]? with
  | none => rfl
  | some x => exact h x (List.mem_of_getElem? hk)
theorem rK_kn (k : Nat) : kn rK k = false := kn_false (fun x hx => by
  simp only [rK, List.mem_map] at hx
  obtain ⟨_, _, rfl⟩ := hx
  rfl) k
theorem rK_small : ∀ x ∈ sz rK, 1 ≤ x ∧ x ≤ 16 := fun x hx => by
  simp only [rK, sz, List.map_map, List.mem_map] at hx
  obtain ⟨y, hy, rfl⟩ := hx
  obtain ⟨k, hk, e⟩ := List.mem_iff_getElem.1 (List.mem_of_mem_take hy)
  rw [isK.at_ k hk] at e
  show 1 ≤ y ∧ y ≤ 16
  omega
theorem iK0 : insI [] 0 (lK.take 1024) false = (rK, 0) := by decide +kernel
theorem iK1 : insI [] 0 lK false = ([], 3) := by decide +kernel
theorem iK2 : insI rK 0 (lK.take 1) true = ([], 3) := by decide +kernel
theorem iK3 : insI rK 1024 [] true = (rK, 0) := by decide +kernel
/-- every second row is known, up to row k -/
structure Kd (R : List (Int × Bool)) (k : Nat) : Prop where
  len : R.length = 1024
  small : ∀ x ∈ sz R, 1 ≤ x ∧ x ≤ 16
  kn_ : ∀ i : Nat, i < 1024 → kn R i = decide (i % 2 = 0 ∧ i < k)
theorem kd_zero : Kd rK 0 := ⟨rK_len, rK_small, fun i _ => by rw [rK_kn, decide_eq_false (by omega)]⟩
theorem Kd.set {R : List (Int × Bool)} {k : Nat} (h : Kd R k) (hk : k < 1024) (h2 : k % 2 = 0) : setI R k 7 true = (R.set k (7, true), 0) ∧ Kd (R.set k (7, true)) (k + 2) := by
  have hkl : k < R.length := by rw [h.len]; exact hk
  have hs := sum_16 h.small
  rw [sz_len, h.len] at hs
  have hks : k < (sz R).length := by rw [sz_len]; exact hkl
  have hg : (sz R).getD k 0 = (sz R)[k] := by rw [List.getD, List.getElem?_eq_getElem hks]; rfl
  have hgm := h.small _ (List.getElem_mem hks)
  constructor
  · unfold setI
    rw [if_pos (show partE R.length (k : Int) 1 = 0 from partE_ok (n := 1) (by omega)), if_neg (by omega), Int.toNat_natCast, if_neg (by rw [hg]; omega)]
  · refine ⟨by rw [List.length_set]; exact h.len, fun x hx => ?_, fun i hi => ?_⟩
    · have e : sz (R.set k (7, true)) = (sz R).set k 7 := by simp [sz, List.map_set]
      rw [e] at hx
      rcases List.mem_or_eq_of_mem_set hx with hx | rfl
      · exact h.small x hx
      · omega
    · rw [kn_set R k 7 true i hkl]
      by_cases he : (i : Int) = k
      · rw [if_pos he, decide_eq_true (by omega)]
      · rw [if_neg he, h.kn_ i hi]
        by_cases hc : i % 2 = 0 ∧ i < k
        · rw [decide_eq_true hc, decide_eq_true (by omega)]
        · rw [decide_eq_false hc, decide_eq_false (by omega)]
theorem Kd.mov {R : List (Int × Bool)} (h : Kd R 1024) : ∃ Y, movI R 0 1 1023 = (Y, 0) ∧ Y.length = 1024 ∧ kn Y 0 = false ∧ kn Y 1023 = true := by
  have hl := h.len
  refine ⟨R.drop 1 ++ R.take 1, ?_, by simp [hl], ?_, ?_⟩
  · have := movI_ok (r := R) (a := 0) (n := 1) (x := 1023) (by omega) (by omega)
    rw [show ((0 : Nat) : Int) = 0 from rfl, show ((1 : Nat) : Int) = 1 from rfl, show ((1023 : Nat) : Int) = 1023 from rfl] at this
    rw [this]
    have e : (R.drop 1).length = 1023 := by rw [List.length_drop, hl]
    simp only [List.take_zero, List.nil_append, List.drop_zero, Nat.zero_add]
    rw [← e, List.take_length, List.drop_length, List.append_nil]
  · have := h.kn_ 1 (by omega)
    rw [kn_in (show 1 < R.length by omega)] at this
    rw [show (0 : Int) = ((0 : Nat) : Int) from rfl, kn_in (show 0 < (R.drop 1 ++ R.take 1).length by simp [hl]), List.getElem_append_left (by rw [List.length_drop]; omega), List.getElem_drop, this]
    decide
  · have := h.kn_ 0 (by omega)
    rw [kn_in (show 0 < R.length by omega)] at this
    rw [show (1023 : Int) = ((1023 : Nat) : Int) from rfl, kn_in (show 1023 < (R.drop 1 ++ R.take 1).length by simp [hl]), List.getElem_append_right (by rw [List.length_drop]; omega)]
    simp only [List.length_drop, hl, Nat.reduceSub, List.getElem_take]
    rw [this]
    decide
/-- the greatest sizes -/
def rP : List (Int × Bool) := [(2305843009213693952, true), (2305843009213693951, true), (1, true)]
def rQ : List (Int × Bool) := [(2305843009213693951, false), (2305843009213693951, true), (1, true)]
theorem iP1 : insI [] 0 [2305843009213693952, 2305843009213693951, 1] true = (rP, 0) := by decide +kernel
theorem iP2 : insI [] 0 [2305843009213693952, 2305843009213693952, 1] true = ([], 13) := by decide +kernel
theorem iP3 : setI rP 2 2 true = ([], 13) := by decide +kernel
theorem iP4 : setI rP 0 2305843009213693951 false = (rQ, 0) := by decide +kernel
theorem iP5 : setI rQ 2 2 true = (rQ.set 2 (2, true), 0) := by decide +kernel
theorem iP6 : insI rQ 3 [1, 1] false = ([], 13) := by decide +kernel
theorem iP7 : insI [] 0 [2305843009213693952, 2305843009213693952, 0] true = ([], 12) := by decide +kernel
theorem rP_sum : (sz rP).sum = 4611686018427387904 := by decide +kernel
theorem rdI_three (w : World) (x y z : Int) : RdI (w.alloc (.cells #[.int .i64 x, .int .i64 y, .int .i64 z] 2)) (w.alloc (.cells #[.int .i64 x, .int .i64 y, .int .i64 z] 2)).heap.size (some ⟨w.heap.size, 0, none⟩) [x, y, z] := fun k hk => by
  have h := heap_alloc_new w (.cells #[.int .i64 x, .int .i64 y, .int .i64 z] 2)
  match k, hk with
  | 0, _ => exact ⟨w.heap.size, 0, rfl, heap_lt h, cell_of_row _ _ 0 _ 2 (0, 0) h⟩
  | 1, _ => exact ⟨w.heap.size, 0, rfl, heap_lt h, cell_of_row _ _ 1 _ 2 (0, 0) h⟩
  | 2, _ => exact ⟨w.heap.size, 0, rfl, heap_lt h, cell_of_row _ _ 2 _ 2 (0, 0) h⟩
/-- the first row that is not known -/
theorem unk_is {w : World} {r : List (Int × Bool)} {t : T} {p A : Option Addr} {c : Nat} {xs : List S.Sp} (h : Ix w r t p A c xs) {a b v : Int} (ha : 0 ≤ a) (hab : a ≤ b) (hb : b ≤ r.length) (hv : a ≤ v ∧ v < b) (hk : kn r v = false) (hj : ∀ j : Int, a ≤ j → j < v → kn r j = true) :
    Calls Try.prog 18 #[.agg #[.int .i64 t.count, .int .i64 t.total, .int .i64 t.depth, .pointer p, .slice A xs.length c], .int .i64 a, .int .i64 b] w fun e w' => e = .returned (.tuple #[.int .i64 v, .int .i64 0]) ∧ Below w.heap.size w w' := by
  refine (unk_ok h a b ha hab hb).mono ?_
  rintro e w' ⟨x, f, rfl, kk, ⟨rfl, h1, h2, h3, h4⟩ | ⟨rfl, rfl, h4⟩⟩
  · rcases Int.lt_trichotomy x v with hx | rfl | hx
    · rw [hj x h1 hx] at h3; cases h3
    · exact ⟨rfl, kk⟩
    · rw [h4 v hv.1 hx] at hk; cases hk
  · rw [h4 v hv.1 hv.2] at hk; cases hk
end Go.Proofs.Ytdejdnkkbpmmlaa
