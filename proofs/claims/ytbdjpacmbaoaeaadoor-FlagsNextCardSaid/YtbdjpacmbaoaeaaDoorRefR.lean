/- The walk of the reference's Remove. -/
import Derived.Test.YtbdjpacmbaoaeaaDoorAppW
import Derived.Test.YtbdjpacmbaoaeaaDoorRefI
import Derived.Test.YtbdjpacmbaoaeaaDoorPartW
namespace Go.Proofs.YtbdjpacmbaoaeaaDoor
open Go.RowKit S

set_option maxHeartbeats 2000000 in
theorem refRem_bad {w : World} {A : Option Addr} {c : Nat} {l : List Bool} (i n : Int) (hi2 : i ≤ 9223372036854775807) (hn2 : n ≤ 9223372036854775807) (_hl : l.length ≤ 4096) (h : i < 0 ∨ n < 0 ∨ (l.length : Int) - i < n) :
    Calls Tryd.prog 23 #[.slice A l.length c, .int .i64 i, .int .i64 n] w fun e w' => e = .returned (.tuple #[.slice A l.length c, .int .i64 4]) ∧ w = w' := by
  rcases (show i < 0 ∨ (¬ (i < 0) ∧ n < 0) ∨ (¬ (i < 0) ∧ ¬ (n < 0) ∧ (l.length : Int) < i) ∨ (¬ (i < 0) ∧ ¬ (n < 0) ∧ ¬ ((l.length : Int) < i) ∧ (l.length : Int) - i < n) by omega) with h | ⟨h, h2⟩ | ⟨h, h2, h3⟩ | ⟨h, h2, h3, h4⟩
  all_goals
    go_enter Tryd.func23, Tryd.ntmps23
    go_wp2
    go_ret2
    exact ⟨rfl, rfl⟩
set_option maxHeartbeats 4000000 in
theorem refRem_ok {w : World} {A : Option Addr} {c : Nat} {l : List Bool} (h : SlB w A c l) (i n : Nat) (hi : i + n ≤ l.length) (hl : l.length ≤ 4096) :
    Calls Tryd.prog 23 #[.slice A l.length c, .int .i64 i, .int .i64 n] w fun e w' => ∃ v', e = .returned (.tuple #[v', .int .i64 0]) ∧ OwnB w' w.heap.size v' (remB l i n) ∧ Below w.heap.size w w' := by
  have hle := h.le
  have HS := Lib.hid h
  have hti : (l.take i).length = i := by rw [List.length_take]; omega
  obtain ⟨q, hq⟩ : ∃ q : Nat, i + n = q := ⟨_, rfl⟩
  have hql : q ≤ l.length := by omega
  have hdl : (l.drop q).length = l.length - q := List.length_drop
  have HO : Hid (OwnB ((w.alloc (.cells #[] 4)).drew) w.heap.size (.slice (some ⟨w.heap.size, 0, none⟩) 0 0) []) := Lib.hid (made0 w)
  have HB : Hid (Below w.heap.size w ((w.alloc (.cells #[] 4)).drew)) := Lib.hid ((Below.refl w.heap.size w).alloc (Nat.le_refl _) _).drew
  have HS0 := Lib.hid ((HS.out.below HB.out).head i (by omega))
  obtain ⟨A2, hA2⟩ : ∃ A2, (if c = q then A else A.map fun x => x.add q) = A2 := ⟨_, rfl⟩
  have HD : Hid ((l.drop q).take (l.length - q) = l.drop q) := Lib.hid (List.take_of_length_le (by omega))
  have HP : Hid (∀ w', Below w.heap.size w w' → Src w' A2 (l.length - q) (c - q) (l.drop q)) := Lib.hid (fun w' hb => by
    have := (HS.out.below hb).part q l.length hql (Nat.le_refl _)
    rw [hA2, HD.out] at this
    exact this)
  have HQ := Lib.hid hq
  clear h HD
  go_enter Tryd.func23, Tryd.ntmps23
  go_wp2_with fail
  have hwq : IntKind.i64.wrap ((i : Int) + (n : Int)) = (q : Int) := by rw [← Int.natCast_add, HQ.out]; exact IntWalk.i64_in _ (by omega)
  have z0 : (0 : Int) ≤ (i : Int) := by omega
  have z1 : (i : Int) ≤ (c : Int) := by omega
  have z2 : (0 : Int) ≤ (q : Int) := by omega
  have z3 : (q : Int) ≤ (l.length : Int) := by omega
  clear hq
  go_region_law (first
      | (refine step_app rfl (.tmp 29) (.tmp 32) rfl w.heap.size _ [] rfl A i c (l.take i) rfl HO.out HS0.out (by simp; omega) HB.out.size ?_
         intro v1 w1 H1 B1)
      | (refine step_app rfl (.tmp 33) (.tmp 38) rfl w.heap.size v1 ([] ++ l.take i) rfl A2 (l.length - q) (c - q) (l.drop q) rfl H1.out (HP.out _ (HB.out.trans B1.out)) (by simp only [List.nil_append]; omega) (HB.out.trans B1.out).size ?_
         intro v3 w3 H3 B3))
  go_wp2
  go_ret2
  exact ⟨v3, rfl, by have := H3.out; rw [List.nil_append] at this; show OwnB w3 w.heap.size v3 (l.take i ++ l.drop (i + n)); rw [HQ.out]; exact this, (HB.out.trans B1.out).trans B3.out⟩
end Go.Proofs.YtbdjpacmbaoaeaaDoor
