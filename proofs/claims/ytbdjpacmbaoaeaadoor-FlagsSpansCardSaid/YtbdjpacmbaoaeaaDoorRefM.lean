/- The walk of the reference's Move. -/
import Derived.Test.YtbdjpacmbaoaeaaDoorRefR
namespace Go.Proofs.YtbdjpacmbaoaeaaDoor
open Go.RowKit S

set_option maxHeartbeats 2000000 in
theorem refMv_bad {w : World} {A : Option Addr} {c : Nat} {l : List Bool} (i n t : Int) (hi2 : i ≤ 9223372036854775807) (hn2 : n ≤ 9223372036854775807) (hl : l.length ≤ 4096) (h : i < 0 ∨ n < 0 ∨ (l.length : Int) - i < n) :
    Calls Tryd.prog 25 #[.slice A l.length c, .int .i64 i, .int .i64 n, .int .i64 t] w fun e w' => e = .returned (.tuple #[.slice A l.length c, .int .i64 4]) ∧ w = w' := by
  have K := Lib.hid (refRem_bad (w := w) (A := A) (c := c) i n hi2 hn2 hl h)
  clear h
  go_enter Tryd.func25, Tryd.ntmps25
  go_wp2_with (go_at_call 23; refine K.out.mono ?_; rintro e w' ⟨rfl, rfl⟩)
  go_ret2
  exact ⟨rfl, rfl⟩
set_option maxHeartbeats 2000000 in
theorem refMv_far {w : World} {A : Option Addr} {c : Nat} {l : List Bool} (h : SlB w A c l) (i n : Nat) (t : Int) (hi : i + n ≤ l.length) (hl : l.length ≤ 4096) (ht : t < 0 ∨ (l.length : Int) - n < t) :
    Calls Tryd.prog 25 #[.slice A l.length c, .int .i64 i, .int .i64 n, .int .i64 t] w fun e w' => e = .returned (.tuple #[.slice A l.length c, .int .i64 4]) ∧ Below w.heap.size w w' := by
  have K := Lib.hid (refRem_ok h i n hi hl)
  clear h
  have hrl : (remB l i n).length = l.length - n := by simp only [List.length_append, List.length_take, List.length_drop]; omega
  go_enter Tryd.func25, Tryd.ntmps25
  go_wp2_with fail
  refine K.out.mono ?_
  rintro e w1 ⟨v, rfl, ho, hb⟩
  obtain ⟨B, d, rfl, hs⟩ := ho.slb
  have HB := Lib.hid hb
  clear K ho hs hb
  rw [hrl]
  have hc : ((l.length - n : Nat) : Int) = (l.length : Int) - n := by omega
  rcases (show t < 0 ∨ (¬ (t < 0) ∧ ((l.length - n : Nat) : Int) < t) by omega) with h | ⟨h, h2⟩
  all_goals
    clear ht
    go_wp2_with fail
    go_ret2
    exact ⟨rfl, HB.out⟩
set_option maxHeartbeats 4000000 in
theorem refMv_ok {w : World} {A : Option Addr} {c : Nat} {l : List Bool} (h : SlB w A c l) (i n t : Nat) (hi : i + n ≤ l.length) (hl : l.length ≤ 4096) (ht : t ≤ l.length - n) :
    Calls Tryd.prog 25 #[.slice A l.length c, .int .i64 i, .int .i64 n, .int .i64 t] w fun e w' => ∃ v', e = .returned (.tuple #[v', .int .i64 0]) ∧ OwnB w' w.heap.size v' (mvd l i n t) ∧ Below w.heap.size w w' := by
  have K := Lib.hid (refRem_ok h i n hi hl)
  have hle := h.le
  have HS := Lib.hid h
  clear h
  have hrl : (remB l i n).length = l.length - n := by simp only [List.length_append, List.length_take, List.length_drop]; omega
  have HM : Hid (mvd l i n t = (remB l i n).take t ++ ((l.drop i).take n ++ (remB l i n).drop t)) := Lib.hid rfl
  have hml : ((l.drop i).take n).length = n := by rw [List.length_take, List.length_drop]; omega
  obtain ⟨q, hq⟩ : ∃ q : Nat, i + n = q := ⟨_, rfl⟩
  have HQ := Lib.hid hq
  have hql : q ≤ l.length := by omega
  have hwq : (i : Int) + (n : Int) = (q : Int) := by omega
  have hqi : q - i = n := by omega
  obtain ⟨A2, hA2⟩ : ∃ A2, (if c = i then A else A.map fun x => x.add i) = A2 := ⟨_, rfl⟩
  have HP : Hid (∀ w', Below w.heap.size w w' → Src w' A2 n (c - i) ((l.drop i).take n)) := Lib.hid (fun w' hb => by
    have := (HS.out.below hb).part i q (by omega) hql
    rw [hA2, hqi] at this
    exact this)
  go_enter Tryd.func25, Tryd.ntmps25
  go_wp2_with fail
  refine K.out.mono ?_
  rintro e w1 ⟨v, rfl, ho, hb⟩
  obtain ⟨B, d, rfl, hs⟩ := ho.slb
  have HB := Lib.hid hb
  have HR := Lib.hid hs
  have hd := hs.le
  have HO := Lib.hid (made0 w1)
  have HB1 : Hid (Below w1.heap.size w1 (w1.alloc (.cells #[] 4))) := Lib.hid ((Below.refl _ _).alloc (Nat.le_refl _) _)
  clear K ho hs hb HS
  generalize remB l i n = r at *
  rw [hrl] at hd ⊢
  have hr1 : (r.take t).length = t := by rw [List.length_take]; omega
  have hr2 : (r.drop t).length = l.length - n - t := by rw [List.length_drop, hrl]
  have HS0 := Lib.hid ((HR.out.below HB1.out).head t (by omega))
  obtain ⟨B2, hB2⟩ : ∃ B2, (if d = t then B else B.map fun x => x.add t) = B2 := ⟨_, rfl⟩
  have HD : Hid ((r.drop t).take (r.length - t) = r.drop t) := Lib.hid (List.take_of_length_le (by rw [List.length_drop]; omega))
  have HP2 : Hid (∀ w', Below w1.heap.size w1 w' → Src w' B2 (l.length - n - t) (d - t) (r.drop t)) := Lib.hid (fun w' hb => by
    have := (HR.out.below hb).part t r.length (by omega) (Nat.le_refl _)
    rw [hB2, HD.out, hrl] at this
    exact this)
  have htt : (t : Int) ≤ ((l.length - n : Nat) : Int) := by omega
  have hz : w1.heap.size ≤ (w1.alloc (.cells #[] 4)).heap.size := HB1.out.size
  go_wp2_with (first
    | (at_builtin
       refine wp_app rfl (.tmp 33) (.tmp 36) rfl w1.heap.size _ [] rfl B t d (r.take t) rfl HO.out HS0.out (by simp; omega) hz ?_
       intro v1 w2 H1 F1
       have HC1 := Lib.hid (HB1.out.trans F1.out))
    | (at_builtin
       refine wp_app rfl (.tmp 38) (.tmp 44) rfl w1.heap.size v1 ([] ++ r.take t) rfl A2 n (c - i) ((l.drop i).take n) rfl H1.out (HP.out _ (HB.out.trans (HC1.out.mono HB.out.size))) (by simp only [List.nil_append]; omega) HC1.out.size ?_
       intro v2 w3 H2 F2
       have HC2 := Lib.hid (HC1.out.trans F2.out))
    | (at_builtin
       refine wp_app rfl (.tmp 46) (.tmp 49) rfl w1.heap.size v2 (([] ++ r.take t) ++ (l.drop i).take n) rfl B2 (l.length - n - t) (d - t) (r.drop t) rfl H2.out (HP2.out _ HC2.out) (by simp only [List.nil_append, List.length_append]; omega) HC2.out.size ?_
       intro v3 w4 H3 F3))
  go_ret2
  refine ⟨v3, rfl, ?_, HB.out.trans ((HC2.out.trans F3.out).mono HB.out.size)⟩
  have h3 := H3.out
  rw [List.nil_append, List.append_assoc, ← HM.out] at h3
  have hsz := HB.out.size
  unfold OwnB at h3 ⊢
  obtain ⟨a1, a2⟩ := h3
  exact ⟨a1, a2.imp id (fun ⟨g, cap, cur, e, hg, r⟩ => ⟨g, cap, cur, e, Nat.le_trans hsz hg, r⟩)⟩
end Go.Proofs.YtbdjpacmbaoaeaaDoor
