/- The chapter's examples, call by call. -/
import Derived.Test.YtejgcpohdbiaoaaCarW
import Derived.Test.YtejgcpohdbiaoaaMvsW
import Derived.Test.YtejgcpohdbiaoaaSamW
namespace Go.Proofs.Ytejgcpohdbiaoaa
open Go.RowKit

theorem lit_sl (W : World) (zs : List Int) {cs : Array Value} (h : (iv zs).toArray = cs) (hl : zs.length ≤ 9223372036854775807) : SlI (W.alloc (.cells cs 3)) (some ⟨W.heap.size, 0, none⟩) zs.length zs := by
  subst h
  exact (RI.lit W zs).sl hl
theorem lit_pr (W : World) (T : TypeId) (zs : List (Int × Int)) {cs : Array Value} (h : (pv zs).toArray = cs) (hl : zs.length ≤ 9223372036854775807) : SlP (W.alloc (.cells cs T)) (some ⟨W.heap.size, 0, none⟩) zs.length zs := by
  subst h
  refine ⟨fun k hk => ⟨W.heap.size, 0, rfl, by simp, ?_, ?_⟩, Nat.le_refl _, hl⟩
  · refine (cell_of_row _ _ _ _ T (0, 0) (heap_alloc_new W _)).trans ?_
    rw [Nat.zero_add]
    simpa using (pv_get zs k hk).1
  · refine (cell_of_row _ _ _ _ T (0, 0) (heap_alloc_new W _)).trans ?_
    rw [Nat.zero_add]
    simpa using (pv_get zs k hk).2
theorem rng_of {l : List Int} (h : ∀ x ∈ l, -100000 ≤ x ∧ x ≤ 100000) : Rng l := fun x hx => by
  have := h x hx
  unfold I64
  omega
theorem rngP_of {l : List (Int × Int)} (h : ∀ x ∈ l, (-100000 ≤ x.1 ∧ x.1 ≤ 100000) ∧ (-100000 ≤ x.2 ∧ x.2 ≤ 100000)) : RngP l := fun x hx => by
  have := h x hx
  unfold I64
  omega
theorem ex1 (W : World) : Calls Try.prog 10 #[.slice (some ⟨W.heap.size, 0, none⟩) 5 5] (W.alloc (.cells #[.int .i64 3, .int .i64 1, .int .i64 2, .int .i64 0, .int .i64 5] 3)) (RowX ([1, 2, 4], 0) (W.alloc (.cells #[.int .i64 3, .int .i64 1, .int .i64 2, .int .i64 0, .int .i64 5] 3))) := by
  have h := longest_any (lit_sl W [3, 1, 2, 0, 5] rfl (by decide))
  rwa [show lonR [3, 1, 2, 0, 5] = ([1, 2, 4], 0) by decide] at h
theorem ex2 (W : World) : Calls Try.prog 10 #[.slice (some ⟨W.heap.size, 0, none⟩) 2 2] (W.alloc (.cells #[.int .i64 2, .int .i64 1] 3)) (RowX ([0], 0) (W.alloc (.cells #[.int .i64 2, .int .i64 1] 3))) := by
  have h := longest_any (lit_sl W [2, 1] rfl (by decide))
  rwa [show lonR [2, 1] = ([0], 0) by decide] at h
theorem ex3 (W : World) : Calls Try.prog 10 #[.slice (some ⟨W.heap.size, 0, none⟩) 2 2] (W.alloc (.cells #[.int .i64 5, .int .i64 5] 3)) (RowX ([0], 0) (W.alloc (.cells #[.int .i64 5, .int .i64 5] 3))) := by
  have h := longest_any (lit_sl W [5, 5] rfl (by decide))
  rwa [show lonR [5, 5] = ([0], 0) by decide] at h
theorem ex4 (W : World) : Calls Try.prog 10 #[.slice none 0 0] W (RowX ([], 0) W) := by
  have h := longest_any (SlI.none W)
  rwa [show lonR [] = ([], 0) by decide] at h
/-- two literals -/
theorem two_lit (W : World) (a b : List Int) {ca cb : Array Value} (ha : (iv a).toArray = ca) (hb : (iv b).toArray = cb) (hla : a.length ≤ 9223372036854775807) (hlb : b.length ≤ 9223372036854775807) :
    SlI ((W.alloc (.cells ca 3)).alloc (.cells cb 3)) (some ⟨W.heap.size, 0, none⟩) a.length a ∧ SlI ((W.alloc (.cells ca 3)).alloc (.cells cb 3)) (some ⟨W.heap.size + 1, 0, none⟩) b.length b := by
  refine ⟨(lit_sl W a ha hla).next (below_new _ _), ?_⟩
  have h := lit_sl (W.alloc (.cells ca 3)) b hb hlb
  rwa [show (W.alloc (.cells ca 3)).heap.size = W.heap.size + 1 by simp] at h
theorem ex5 (W : World) : Calls Try.prog 15 #[.slice (some ⟨W.heap.size, 0, none⟩) 4 4, .slice (some ⟨W.heap.size + 1, 0, none⟩) 4 4] ((W.alloc (.cells #[.int .i64 1, .int .i64 2, .int .i64 3, .int .i64 4] 3)).alloc (.cells #[.int .i64 4, .int .i64 1, .int .i64 2, .int .i64 3] 3)) (RowS ([(4, 1)], 0) ((W.alloc (.cells #[.int .i64 1, .int .i64 2, .int .i64 3, .int .i64 4] 3)).alloc (.cells #[.int .i64 4, .int .i64 1, .int .i64 2, .int .i64 3] 3))) := by
  obtain ⟨h1, h2⟩ := two_lit W [1, 2, 3, 4] [4, 1, 2, 3] rfl rfl (by decide) (by decide)
  have h := moves_any h1 h2 (rng_of (by decide)) (rng_of (by decide))
  rwa [show movesR [1, 2, 3, 4] [4, 1, 2, 3] = ([(4, 1)], 0) by decide] at h
theorem ex6 (W : World) : Calls Try.prog 14 #[.slice (some ⟨W.heap.size, 0, none⟩) 3 3, .slice (some ⟨W.heap.size + 1, 0, none⟩) 3 3] ((W.alloc (.cells #[.int .i64 1, .int .i64 2, .int .i64 3] 3)).alloc (.cells #[.int .i64 3, .int .i64 2, .int .i64 1] 3)) (RowX ([3], 0) ((W.alloc (.cells #[.int .i64 1, .int .i64 2, .int .i64 3] 3)).alloc (.cells #[.int .i64 3, .int .i64 2, .int .i64 1] 3))) := by
  obtain ⟨h1, h2⟩ := two_lit W [1, 2, 3] [3, 2, 1] rfl rfl (by decide) (by decide)
  have h := kept_any h1 h2 (rng_of (by decide)) (rng_of (by decide))
  rwa [show keptR [1, 2, 3] [3, 2, 1] = ([3], 0) by decide] at h
theorem ex7 (W : World) : Calls Try.prog 15 #[.slice (some ⟨W.heap.size, 0, none⟩) 3 3, .slice (some ⟨W.heap.size + 1, 0, none⟩) 3 3] ((W.alloc (.cells #[.int .i64 1, .int .i64 2, .int .i64 3] 3)).alloc (.cells #[.int .i64 3, .int .i64 2, .int .i64 1] 3)) (RowS ([(1, -1), (2, 1)], 0) ((W.alloc (.cells #[.int .i64 1, .int .i64 2, .int .i64 3] 3)).alloc (.cells #[.int .i64 3, .int .i64 2, .int .i64 1] 3))) := by
  obtain ⟨h1, h2⟩ := two_lit W [1, 2, 3] [3, 2, 1] rfl rfl (by decide) (by decide)
  have h := moves_any h1 h2 (rng_of (by decide)) (rng_of (by decide))
  rwa [show movesR [1, 2, 3] [3, 2, 1] = ([(1, -1), (2, 1)], 0) by decide] at h
theorem ex8 (W : World) {U : Option Addr} (hU : SlP W U 2 [(1, -1), (2, 1)]) : Calls Try.prog 19 #[.slice (some ⟨W.heap.size, 0, none⟩) 3 3, .slice U 2 2] (W.alloc (.cells #[.int .i64 1, .int .i64 2, .int .i64 3] 3)) (RowX ([3, 2, 1], 0) (W.alloc (.cells #[.int .i64 1, .int .i64 2, .int .i64 3] 3))) := by
  have h := carry_any (lit_sl W [1, 2, 3] rfl (by decide)) (hU.next (below_new _ (.cells #[.int .i64 1, .int .i64 2, .int .i64 3] 3))) (rng_of (by decide)) (rngP_of (by decide))
  rwa [show carryR [1, 2, 3] [(1, -1), (2, 1)] = ([3, 2, 1], 0) by decide] at h
theorem ex9 (W : World) : Calls Try.prog 15 #[.slice (some ⟨W.heap.size, 0, none⟩) 2 2, .slice (some ⟨W.heap.size + 1, 0, none⟩) 2 2] ((W.alloc (.cells #[.int .i64 1, .int .i64 2] 3)).alloc (.cells #[.int .i64 1, .int .i64 3] 3)) (RowS ([], 16) ((W.alloc (.cells #[.int .i64 1, .int .i64 2] 3)).alloc (.cells #[.int .i64 1, .int .i64 3] 3))) := by
  obtain ⟨h1, h2⟩ := two_lit W [1, 2] [1, 3] rfl rfl (by decide) (by decide)
  have h := moves_any h1 h2 (rng_of (by decide)) (rng_of (by decide))
  rwa [show movesR [1, 2] [1, 3] = ([], 16) by decide] at h
theorem ex10 (W : World) : Calls Try.prog 15 #[.slice (some ⟨W.heap.size, 0, none⟩) 2 2, .slice (some ⟨W.heap.size + 1, 0, none⟩) 2 2] ((W.alloc (.cells #[.int .i64 1, .int .i64 1] 3)).alloc (.cells #[.int .i64 1, .int .i64 1] 3)) (RowS ([], 8) ((W.alloc (.cells #[.int .i64 1, .int .i64 1] 3)).alloc (.cells #[.int .i64 1, .int .i64 1] 3))) := by
  obtain ⟨h1, h2⟩ := two_lit W [1, 1] [1, 1] rfl rfl (by decide) (by decide)
  have h := moves_any h1 h2 (rng_of (by decide)) (rng_of (by decide))
  rwa [show movesR [1, 1] [1, 1] = ([], 8) by decide] at h
theorem ex11 (W : World) : Calls Try.prog 19 #[.slice (some ⟨W.heap.size, 0, none⟩) 2 2, .slice (some ⟨W.heap.size + 1, 0, none⟩) 1 1] ((W.alloc (.cells #[.int .i64 1, .int .i64 2] 3)).alloc (.cells #[.int .i64 1, .int .i64 1] 50)) (RowX ([], 1) ((W.alloc (.cells #[.int .i64 1, .int .i64 2] 3)).alloc (.cells #[.int .i64 1, .int .i64 1] 50))) := by
  have h2 := lit_pr (W.alloc (.cells #[.int .i64 1, .int .i64 2] 3)) 50 [(1, 1)] rfl (by decide)
  rw [show (W.alloc (.cells #[.int .i64 1, .int .i64 2] 3)).heap.size = W.heap.size + 1 by simp] at h2
  have h := carry_any ((lit_sl W [1, 2] rfl (by decide)).next (below_new _ (.cells #[.int .i64 1, .int .i64 1] 50))) h2 (rng_of (by decide)) (rngP_of (by decide))
  rwa [show carryR [1, 2] [(1, 1)] = ([], 1) by decide] at h
end Go.Proofs.Ytejgcpohdbiaoaa
