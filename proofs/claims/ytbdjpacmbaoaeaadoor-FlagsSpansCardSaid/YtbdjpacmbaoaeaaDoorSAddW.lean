/- The walks of add, result, stretch, within. -/
import Derived.Test.YtbdjpacmbaoaeaaDoorSBase
namespace Go.Proofs.YtbdjpacmbaoaeaaDoor.S
open Go.RowKit

theorem cell2_new0 (w : World) (a b : Value) (t : TypeId) : (w.alloc (.cells #[a, b] t)).cell? ⟨w.heap.size, 0, none⟩ = some a := by
  rw [cell_of_row _ _ _ _ _ (0, 0) (heap_alloc_new w _)]; rfl
theorem cell2_new1 (w : World) (a b : Value) (t : TypeId) : (w.alloc (.cells #[a, b] t)).cell? ⟨w.heap.size, 1, none⟩ = some b := by
  rw [cell_of_row _ _ _ _ _ (0, 0) (heap_alloc_new w _)]; rfl
set_option maxHeartbeats 800000 in
theorem add_no (v : Value) (p q : Int) (w : World) (h : q ≤ p) :
    Calls Tryd.prog 47 #[v, .agg #[.int .i64 p, .int .i64 q]] w fun e w' => e = .returned v ∧ Below w.heap.size w w' := by
  go_enter Tryd.func47, Tryd.ntmps47
  go_wp2
  go_ret
  exact ⟨rfl, (Below.refl _ _).alloc (Nat.le_refl _) _⟩

set_option maxHeartbeats 800000 in
theorem add_join (base : Nat) (g cap : Nat) (l : List Sp) (p q tp tq : Int) (w : World) (ho : Own w base 56 (.slice (some ⟨g, 0, none⟩) l.length cap) l) (hlt : g < w.heap.size) (h : p < q) (hn : 0 < l.length) (hl : l.length ≤ 2000000000)
    (ht : l.getD (l.length - 1) (0, 0) = (tp, tq)) (h2 : p ≤ tq) :
    Calls Tryd.prog 47 #[.slice (some ⟨g, 0, none⟩) l.length cap, .agg #[.int .i64 p, .int .i64 q]] w fun e w' => e = .returned (.slice (some ⟨g, 0, none⟩) l.length cap) ∧
      Own w' base 56 (.slice (some ⟨g, 0, none⟩) l.length cap) (l.set (l.length - 1) (tp, q)) ∧ w.grownBy w' (some g) := by
  have hk : l.length - 1 < l.length := by omega
  have hlk : l[l.length - 1] = (tp, tq) := by rw [← ht]; simp [List.getD, List.getElem?_eq_getElem hk]
  obtain ⟨f1, f2⟩ := flat_get l (l.length - 1) hk
  rw [hlk] at f1 f2
  have hc := ho.cellAt ((l.length - 1) * 2 + 1) (by omega)
  rw [f2] at hc
  have hf := ho.frozenAt ((l.length - 1) * 2 + 1)
  have hs := ((ho : w.ownsRow _ _ _ _ _ _).alloc (.cells #[.int .i64 p, .int .i64 q] 56)).stored ((l.length - 1) * 2 + 1) (.int .i64 q)
  rw [flat_set2 l _ hk tp q (by rw [hlk])] at hs
  clear f1 f2 hlk ht
  have hx0 : (0 : Int) ≤ (l.length : Int) - 1 := by omega
  have hx1 : (l.length : Int) - 1 < (l.length : Int) := by omega
  have hd1 : decide ((1 : Int) ≤ (l.length : Int)) = true := by simp; omega
  go_enter Tryd.func47, Tryd.ntmps47
  go_wp2
  go_quiet (fail)
  go_wp2
  go_ret
  exact ⟨rfl, by unfold Own; rw [List.length_set]; exact hs.1, only_setCell (only_drewN (only_alloc (only_refl _ _) _) _) (.inl rfl) _⟩

set_option maxHeartbeats 800000 in
theorem add_app (base : Nat) (A : Option Addr) (cap : Nat) (l : List Sp) (p q : Int) (w : World) (ho : Own w base 56 (.slice A l.length cap) l) (hB : base ≤ w.heap.size) (h : p < q) (hn : 0 < l.length) (hl : l.length ≤ 2000000000)
    (h2 : (l.getD (l.length - 1) (0, 0)).2 < p) :
    Calls Tryd.prog 47 #[.slice A l.length cap, .agg #[.int .i64 p, .int .i64 q]] w fun e w' => ∃ v', e = .returned v' ∧ Own w' base 56 v' (l ++ [(p, q)]) ∧ Gr w w' (.slice A l.length cap) v' := by
  obtain ⟨i0, hi0, hz0, hz1, hz2⟩ := info_parts Tryd.info56
  obtain ⟨g, cap', hv, hbg, hlt⟩ := ho.form hn
  simp only [Value.slice.injEq, true_and] at hv
  obtain ⟨rfl, rfl⟩ := hv
  have hk : l.length - 1 < l.length := by omega
  obtain ⟨f1, f2⟩ := flat_get l (l.length - 1) hk
  rw [show l.getD (l.length - 1) (0, 0) = l[l.length - 1] from by simp [List.getD, List.getElem?_eq_getElem hk]] at h2
  have hc := ho.cellAt ((l.length - 1) * 2 + 1) (by omega)
  rw [f2] at hc
  clear f1 f2
  generalize l[l.length - 1] = t at *
  obtain ⟨tp, tq⟩ := t
  simp only at h2 hc
  have hx0 : (0 : Int) ≤ (l.length : Int) - 1 := by omega
  have hx1 : (l.length : Int) - 1 < (l.length : Int) := by omega
  have hd1 : decide ((1 : Int) ≤ (l.length : Int)) = true := by simp; omega
  go_enter Tryd.func47, Tryd.ntmps47
  go_wp2
  go_quiet (fail)
  go_wp2_with (
    at_builtin
    refine wpList_append_lies _ rfl (.tmp 34) (.tmp 36) _ rfl base 56 i0 _ 2 16 Tryd.underlying51 hi0 hz0 hz1 hz2 rfl (by omega) (.slice (some ⟨g, 0, none⟩) l.length cap) l.length (flat l) rfl (own_adrna ho _ _ _)
      ⟨w.heap.size + 1, 0, none⟩ 1 1 [.int .i64 p, .int .i64 q] rfl rfl (World.news_of_block (cs := #[.int .i64 p, .int .i64 q]) (t := 56) (fr := (0, 0)) (by have := heap_alloc_new ((w.alloc (.cells #[.int .i64 p, .int .i64 q] 56)).drewN nq) (.cells #[.int .i64 p, .int .i64 q] 56); simpa using this)) (by simp [Value.oneCell'])
      (by omega) (by simp [maxLen]; omega) (by omega) (by simp; omega) (w.heap.size + 2) (by simp) ?_
    intro gg cap2 w1 hown1 hgrow hat hlt1)
  go_ret
  exact ⟨_, rfl, own_app1 hown1, ⟨only_trans (only_alloc (only_drewN (only_alloc (only_refl _ _) _) _) _) hgrow (fun _ h => .inl h), fun g' hg' => by
    rcases hat with e | e
    · left; rw [e]; exact hg'
    · right; simp [Value.ownBlock] at hg'; omega⟩⟩

set_option maxHeartbeats 800000 in
theorem add_first (base : Nat) (A : Option Addr) (cap : Nat) (p q : Int) (w : World) (ho : Own w base 56 (.slice A 0 cap) []) (hB : base ≤ w.heap.size) (h : p < q) :
    Calls Tryd.prog 47 #[.slice A 0 cap, .agg #[.int .i64 p, .int .i64 q]] w fun e w' => ∃ v', e = .returned v' ∧ Own w' base 56 v' [(p, q)] ∧ Gr w w' (.slice A 0 cap) v' := by
  obtain ⟨i0, hi0, hz0, hz1, hz2⟩ := info_parts Tryd.info56
  go_enter Tryd.func47, Tryd.ntmps47
  go_wp2
  go_quiet (fail)
  go_wp2_with (
    at_builtin
    refine wpList_append_lies _ rfl (.tmp 34) (.tmp 36) _ rfl base 56 i0 _ 2 16 Tryd.underlying51 hi0 hz0 hz1 hz2 rfl (by omega) (.slice A 0 cap) 0 [] rfl (own_adrna ho _ _ _)
      ⟨w.heap.size + 1, 0, none⟩ 1 1 [.int .i64 p, .int .i64 q] rfl rfl (World.news_of_block (cs := #[.int .i64 p, .int .i64 q]) (t := 56) (fr := (0, 0)) (by have := heap_alloc_new ((w.alloc (.cells #[.int .i64 p, .int .i64 q] 56)).drewN nq) (.cells #[.int .i64 p, .int .i64 q] 56); simpa using this)) (by simp [Value.oneCell'])
      (by omega) (by simp [maxLen]) (by omega) (by simp; omega) (w.heap.size + 2) (by simp) ?_
    intro gg cap2 w1 hown1 hgrow hat hlt1)
  go_ret
  exact ⟨_, rfl, own_app1 (xs := []) (by simpa [flat_nil] using hown1), ⟨only_trans (only_alloc (only_drewN (only_alloc (only_refl _ _) _) _) _) hgrow (fun _ h => .inl h), fun g' hg' => by
    rcases hat with e | e
    · left; rw [e]; exact hg'
    · right; simp [Value.ownBlock] at hg'; omega⟩⟩

theorem add_any (base : Nat) (v : Value) (l : List Sp) (p q : Int) (w : World) (ho : Own w base 56 v l) (hB : base ≤ w.heap.size) (hl : l.length ≤ 2000000000) :
    Calls Tryd.prog 47 #[v, .agg #[.int .i64 p, .int .i64 q]] w fun e w' => ∃ v', e = .returned v' ∧ Own w' base 56 v' (addS l (p, q)) ∧ Gr w w' v v' := by
  by_cases h : q ≤ p
  · rw [addS_no h]
    refine (add_no v p q w h).mono ?_
    rintro e w' ⟨rfl, hb⟩
    exact ⟨v, rfl, own_below ho hb, ⟨only_of_below hb _, fun g hg => .inl hg⟩⟩
  · obtain ⟨A, c, rfl, hc, _⟩ := ho.rd
    rcases Nat.eq_zero_or_pos l.length with h0 | h0
    · obtain rfl := List.eq_nil_of_length_eq_zero h0
      rw [addS_app (t := (0, 0)) (by simp; omega) rfl (.inl rfl)]
      exact add_first base A c p q w ho hB (by omega)
    · rcases ht : l.getD (l.length - 1) (0, 0) with ⟨tp, tq⟩
      by_cases h2 : p ≤ tq
      · rw [addS_join (by simp; omega) h0 ht h2]
        obtain ⟨g, cap', hv, hbg, hlt⟩ := ho.form h0
        simp only [Value.slice.injEq, true_and] at hv
        obtain ⟨rfl, rfl⟩ := hv
        refine (add_join base g c l p q tp tq w ho hlt (by omega) h0 hl ht h2).mono ?_
        rintro e w' ⟨rfl, ho', hg⟩
        exact ⟨_, rfl, ho', ⟨hg, fun g' hg' => .inl hg'⟩⟩
      · rw [addS_app (by simp; omega) ht (by simp; omega)]
        exact add_app base A c l p q w ho hB (by omega) h0 hl (by rw [ht]; simp; omega)
end Go.Proofs.YtbdjpacmbaoaeaaDoor.S
