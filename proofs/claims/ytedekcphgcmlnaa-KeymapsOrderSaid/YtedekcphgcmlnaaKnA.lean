/- The lists of the law KeymapsKnown. -/
import Derived.Test.YtedekcphgcmlnaaSamW
namespace Go.Proofs.Ytedekcphgcmlnaa
open Go.RowKit

theorem atI_end {L : PL} {k : Int} (h : ∀ p ∈ L, p.1 < k) : atI L k = L.length :=
  atI_eq (Nat.le_refl _) (fun _ hj _ => h _ (List.getElem_mem hj)) (fun h => absurd h (Nat.lt_irrefl _))
theorem has_end {L : PL} {k : Int} (h : ∀ p ∈ L, p.1 < k) : hasK L k = false := (has_no fun v hv => by have := h _ hv; simp at this).1
theorem put_end {L : PL} {k : Int} (h : ∀ p ∈ L, p.1 < k) (hk : k ≠ 0) (hl : L.length < 4096) (v : Int) : putL L k v = (L ++ [(k, v)], 0) := by
  unfold putL
  rw [if_neg hk, has_end h, if_neg (by omega), atI_end h]
  simp
theorem drop_first (k v : Int) (L : PL) : dropL ((k, v) :: L) k = (L, true) := by
  simp [dropL, hasK, atI]
theorem drop_second {a b : Int × Int} (h : a.1 < b.1) (L : PL) : dropL (a :: b :: L) b.1 = (a :: L, true) := by
  have e : atI (a :: b :: L) b.1 = 1 := by
    unfold atI
    rw [if_neg (by omega)]
    unfold atI
    rw [if_pos (Int.le_refl _)]
  unfold dropL hasK
  rw [e]
  simp
theorem drop_last {L : PL} {k : Int} (h : ∀ p ∈ L, p.1 < k) (v : Int) : dropL (L ++ [(k, v)]) k = (L, true) := by
  have e : atI (L ++ [(k, v)]) k = L.length := by
    refine atI_eq (by simp) (fun j hj hlt => ?_) (fun hlt => ?_)
    · rw [List.getElem_append_left hlt]
      exact h _ (List.getElem_mem hlt)
    · rw [List.getElem_append_right (Nat.le_refl _)]
      simp
  unfold dropL hasK
  rw [e]
  simp
theorem put_head {a : Int × Int} {L : PL} (h : a.1 ≠ 0) (v : Int) : putL (a :: L) a.1 v = ((a.1, v) :: L, 0) := by
  have e : atI (a :: L) a.1 = 0 := by
    unfold atI
    rw [if_pos (Int.le_refl _)]
  have e2 : hasK (a :: L) a.1 = true := by
    unfold hasK
    rw [e]
    simp
  unfold putL
  rw [if_neg h, e2, if_neg (by simp), e]
  simp
/-- the keys 2^40, 2 * 2^40 .. with their numbers -/
def kb (n : Nat) : PL := (List.range n).map fun j => ((((j + 1 : Nat) : Int) * 1099511627776), ((j + 1 : Nat) : Int))
theorem kb_len (n : Nat) : (kb n).length = n := by simp [kb]
theorem kb_succ (n : Nat) : kb (n + 1) = kb n ++ [(((n + 1 : Nat) : Int) * 1099511627776, ((n + 1 : Nat) : Int))] := by
  unfold kb
  rw [List.range_succ, List.map_append]
  rfl
theorem kb_lt {n : Nat} : ∀ p ∈ kb n, p.1 < ((n + 1 : Nat) : Int) * 1099511627776 := by
  intro p hp
  unfold kb at hp
  simp only [List.mem_map, List.mem_range] at hp
  obtain ⟨j, hj, rfl⟩ := hp
  show ((j + 1 : Nat) : Int) * 1099511627776 < _
  omega
theorem kb_get (n j : Nat) (h : j < n) : (kb n)[j]? = some (((j + 1 : Nat) : Int) * 1099511627776, ((j + 1 : Nat) : Int)) := by
  simp [kb, h]
theorem kb_put {i : Nat} (hi : i < 4096) : putL (kb i) (((i + 1 : Nat) : Int) * 1099511627776) ((i + 1 : Nat) : Int) = (kb (i + 1), 0) := by
  rw [put_end kb_lt (by omega) (by rw [kb_len]; exact hi), kb_succ]
theorem kb_seven (n : Nat) : hasK (kb n) 7 = false := (has_no fun v hv => by
  unfold kb at hv
  simp only [List.mem_map, List.mem_range, Prod.mk.injEq] at hv
  obtain ⟨j, _, h, _⟩ := hv
  omega).1
attribute [irreducible] kb
/-- the first key has the number 9, and those from 2 to i are gone -/
def kt (i : Nat) : PL := (1099511627776, 9) :: (kb 4096).drop i
theorem kt_one : putL (kb 4096) 1099511627776 9 = (kt 1, 0) := by
  have e : kb 4096 = (1099511627776, 1) :: (kb 4096).drop 1 := by
    have h := kb_get 4096 0 (by decide)
    obtain ⟨hl, he⟩ := List.getElem?_eq_some_iff.1 h
    have := List.getElem_cons_drop hl
    rw [he] at this
    simpa using this.symm
  rw [e]
  have := put_head (a := (1099511627776, 1)) (L := (kb 4096).drop 1) (by decide) 9
  rw [this]
  unfold kt
  rfl
theorem kt_cons {i : Nat} (hi : i < 4096) : kt i = (1099511627776, 9) :: (((i + 1 : Nat) : Int) * 1099511627776, ((i + 1 : Nat) : Int)) :: (kb 4096).drop (i + 1) := by
  unfold kt
  obtain ⟨hl, he⟩ := List.getElem?_eq_some_iff.1 (kb_get 4096 i hi)
  rw [← List.getElem_cons_drop hl, he]
theorem kt_gt {i : Nat} (h1 : 1 ≤ i) : (1099511627776 : Int) < ((i + 1 : Nat) : Int) * 1099511627776 := by omega
theorem at_second {a b : Int × Int} (h : a.1 < b.1) (L : PL) : hasK (a :: b :: L) b.1 = true ∧ valK (a :: b :: L) b.1 = b.2 := by
  have e : atI (a :: b :: L) b.1 = 1 := by
    unfold atI
    rw [if_neg (by omega)]
    unfold atI
    rw [if_pos (Int.le_refl _)]
  unfold hasK valK
  rw [e]
  simp
theorem kt_get {i : Nat} (h1 : 1 ≤ i) (hi : i < 4096) : hasK (kt i) (((i + 1 : Nat) : Int) * 1099511627776) = true ∧ valK (kt i) (((i + 1 : Nat) : Int) * 1099511627776) = ((i + 1 : Nat) : Int) := by
  rw [kt_cons hi]
  have h := kt_gt h1
  generalize (((i + 1 : Nat) : Int) * 1099511627776) = K at *
  generalize (kb 4096).drop (i + 1) = R
  exact at_second (a := (1099511627776, 9)) (b := (K, ((i + 1 : Nat) : Int))) h R
theorem kt_drop {i : Nat} (h1 : 1 ≤ i) (hi : i < 4096) : dropL (kt i) (((i + 1 : Nat) : Int) * 1099511627776) = (kt (i + 1), true) := by
  rw [kt_cons hi]
  have h := kt_gt h1
  unfold kt
  generalize (((i + 1 : Nat) : Int) * 1099511627776) = K at *
  generalize (kb 4096).drop (i + 1) = R
  exact drop_second (a := (1099511627776, 9)) (b := (K, ((i + 1 : Nat) : Int))) h R
theorem kt_end : kt 4096 = [(1099511627776, 9)] := by
  unfold kt
  rw [List.drop_of_length_le (by rw [kb_len]; exact Nat.le_refl _)]
/-- the keys from a + 1 to b -/
def seg (a b : Nat) : PL := (List.range' (a + 1) (b - a)).map fun j : Nat => ((j : Int), (j : Int))
theorem seg_len (a b : Nat) : (seg a b).length = b - a := by simp [seg]
theorem seg_lt {a b : Nat} : ∀ p ∈ seg a b, p.1 < ((b + 1 : Nat) : Int) := by
  intro p hp
  unfold seg at hp
  simp only [List.mem_map, List.mem_range'_1] at hp
  obtain ⟨j, ⟨h1, h2⟩, rfl⟩ := hp
  show (j : Int) < _
  omega
theorem seg_succ {a b : Nat} (h : a ≤ b) : seg a (b + 1) = seg a b ++ [(((b + 1 : Nat) : Int), ((b + 1 : Nat) : Int))] := by
  unfold seg
  rw [show b + 1 - a = (b - a) + 1 by omega, List.range'_concat, List.map_append]
  simp
  omega
theorem seg_cons {a b : Nat} (h : a < b) : seg a b = (((a + 1 : Nat) : Int), ((a + 1 : Nat) : Int)) :: seg (a + 1) b := by
  unfold seg
  rw [show b - a = (b - (a + 1)) + 1 by omega, List.range'_succ]
  rfl
theorem seg_put {a b : Nat} (h : a ≤ b) (hl : b - a < 4096) : putL (seg a b) ((b + 1 : Nat) : Int) ((b + 1 : Nat) : Int) = (seg a (b + 1), 0) := by
  rw [put_end seg_lt (by omega) (by rw [seg_len]; exact hl), seg_succ h]
theorem seg_drop {a b : Nat} (h : a < b) : dropL (seg a b) ((a + 1 : Nat) : Int) = (seg (a + 1) b, true) := by
  rw [seg_cons h]
  exact drop_first _ _ _
theorem seg_five : seg 2994 2999 = [(2995, 2995), (2996, 2996), (2997, 2997), (2998, 2998), (2999, 2999)] := by rfl
theorem lm_slots {w0 w : World} {b M : Nat} {L : PL} (h : Lm w0 w b L M) :
    ∃ n : Nat, n ≤ max 8 (8 * M) ∧ Calls Try.prog 23 #[.pointer (some ⟨b, 0, none⟩)] w fun e w' => e = .returned (.int .i64 n) ∧ w' = w := by
  obtain ⟨s, S, h1, h2, _⟩ := h
  exact ⟨S.length, h2.size, slots_any h1⟩
theorem lm_same {N : Nat} (hS : SortU N) {w0 w : World} {b M most : Nat} {L : PL} (h : Lm w0 w b L M) (hN : L.length ≤ N) {A : Option Addr} {c : Nat} (hl : SlR w A c L) (hm : M ≤ most) (hm2 : most ≤ 100000) :
    Calls Try.prog 17 #[.pointer (some ⟨b, 0, none⟩), .slice A L.length c, .int .i64 most] w fun e w' => e = .returned (.bool true) ∧ Lm w0 w' b L M := by
  have h0 := h
  obtain ⟨s, S, h1, h2, _⟩ := h
  refine (same_any hS h1 h2 hN hl hm hm2).mono ?_
  rintro e w' ⟨rfl, hb⟩
  exact ⟨rfl, h0.next hb⟩
theorem slr_lit (W : World) (L : PL) (hl : L.length ≤ 1000000) : SlR (W.alloc (.cells (rv L).toArray 41)) (some ⟨W.heap.size, 0, none⟩) L.length L :=
  ⟨fun k hk => by
    have h := heap_alloc_new W (.cells (rv L).toArray 41)
    obtain ⟨g0, g1⟩ := rv_get L k hk
    refine ⟨W.heap.size, 0, rfl, heap_lt h, ?_, ?_⟩
    · rw [Nat.zero_add]
      refine (cell_of_row _ _ _ _ 41 (0, 0) h).trans ?_
      simpa using g0
    · rw [Nat.zero_add]
      refine (cell_of_row _ _ _ _ 41 (0, 0) h).trans ?_
      simpa using g1, Nat.le_refl _, by omega, fun h => by cases h⟩
attribute [irreducible] kt seg
end Go.Proofs.Ytedekcphgcmlnaa
