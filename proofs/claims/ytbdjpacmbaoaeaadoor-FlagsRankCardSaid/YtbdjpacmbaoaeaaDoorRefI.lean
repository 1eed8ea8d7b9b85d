/- The walk of the reference's Insert. -/
import Derived.Test.YtbdjpacmbaoaeaaDoorAppW
import Derived.Test.YtbdjpacmbaoaeaaDoorSpM
namespace Go.Proofs.YtbdjpacmbaoaeaaDoor
open Go.RowKit S

theorem rep_succ (l : List Bool) (k : Nat) (v : Bool) : (l ++ List.replicate k v) ++ [v] = l ++ List.replicate (k + 1) v := by
  rw [List.append_assoc, List.replicate_succ']
theorem made0 (w : World) : OwnB (w.alloc (.cells #[] 4)) w.heap.size (.slice (some ⟨w.heap.size, 0, none⟩) 0 0) [] := World.ownsRow_made w #[] 0 (Nat.le_refl _) (by simp [maxLen]) rfl
set_option maxHeartbeats 2000000 in
theorem refIns_ok {w : World} {A : Option Addr} {c : Nat} {l : List Bool} (h : SlB w A c l) (i n : Nat) (v : Bool) (hi : i ≤ l.length) (hn : n + l.length ≤ 4096) :
    Calls Tryd.prog 21 #[.slice A l.length c, .int .i64 i, .int .i64 n, .bool v] w fun e w' => ∃ v', e = .returned (.tuple #[v', .int .i64 0]) ∧ OwnB w' w.heap.size v' (insB l i n v) ∧ Below w.heap.size w w' := by
  have hle := h.le
  have h3 : (i : Int) ≤ (c : Int) := by omega
  have HO := Lib.hid (made0 w)
  have HB : Hid (Below w.heap.size w (w.alloc (.cells #[] 4))) := Lib.hid ((Below.refl _ _).alloc (Nat.le_refl _) _)
  have HS := Lib.hid h
  have HS0 := Lib.hid ((h.below HB.out).head i hi)
  have hti : (l.take i).length = i := by rw [List.length_take]; omega
  clear h
  go_enter Tryd.func21, Tryd.ntmps21
  go_wp2_with (
    at_builtin
    refine wp_app rfl (.tmp 31) (.tmp 34) rfl w.heap.size _ [] rfl A i c (l.take i) rfl HO.out HS0.out (by simp; omega) (by simp) ?_
    intro v1 w1 H1 B1)
  have HB1 : Hid (Below w.heap.size w w1) := Lib.hid (HB.out.trans B1.out)
  have H1' : Hid (OwnB w1 w.heap.size v1 (l.take i)) := Lib.hid (by have := H1.out; rwa [List.nil_append] at this)
  clear H1 B1 HS0 HO HB
  go_loopw [10, 11] (fun x k wr => ∃ (j : Nat), j ≤ n ∧ k = .int .i64 j ∧ Hid (OwnB wr w.heap.size x (l.take i ++ List.replicate j v)) ∧ Hid (Below w.heap.size w wr)) (fun _ k _ => n - (intOf k).toNat)
  case atStart => exact ⟨0, Nat.zero_le _, rfl, by simpa using H1', HB1⟩
  case round =>
    obtain ⟨j, hj, rfl, HW, HB⟩ := hrel
    have hsz := HB.out.size
    have hln : (l.take i ++ List.replicate j v).length = i + j := by rw [List.length_append, hti, List.length_replicate]
    by_cases hlt : j < n
    · have HS := Lib.hid (rep_succ (l.take i) j v)
      generalize l.take i ++ List.replicate j v = x at *
      have HX : Hid (Src (wr.alloc (.cells #[.bool v] 4)) (some ⟨wr.heap.size, 0, none⟩) 1 1 [v]) := Lib.hid (.inr ⟨_, rfl, rfl, World.news_of_block (cs := #[.bool v]) (t := 4) (fr := (0, 0)) (heap_alloc_new wr _)⟩)
      have HY : Hid (OwnB (wr.alloc (.cells #[.bool v] 4)) w.heap.size u10 x) := Lib.hid (World.ownsRow.alloc HW.out _)
      have HB2 : Hid (Below w.heap.size w (wr.alloc (.cells #[.bool v] 4))) := Lib.hid (HB.out.alloc hsz _)
      go_wp2_with (
        at_builtin
        refine wp_app rfl (.tmp 41) (.tmp 43) rfl w.heap.size _ x rfl _ 1 1 [v] rfl HY.out HX.out (by simp; omega) (by simp; omega) ?_
        intro v2 w2 H2 B2)
      go_roundw
      case rel => exact ⟨j + 1, by omega, by go_num, by rw [← HS.out]; exact H2, Lib.hid (HB2.out.trans B2.out)⟩
      case measure => simp [intOf]; omega
    · obtain rfl : j = n := by omega
      have HP := Lib.hid ((HS.out.below HB.out).part i l.length hi (Nat.le_refl _))
      have HD : Hid ((l.drop i).take (l.length - i) = l.drop i) := Lib.hid (List.take_of_length_le (by rw [List.length_drop]; omega))
      have HL : Hid (l.length = i + (l.length - i)) := Lib.hid (by omega)
      obtain ⟨A2, hA2⟩ : ∃ A2, (if c = i then A else A.map fun x => x.add i) = A2 := ⟨_, rfl⟩
      rw [hA2, HD.out] at HP
      have hdl : (l.drop i).length = l.length - i := List.length_drop
      go_wp2_with (
        at_builtin
        refine wp_app rfl (.tmp 45) (.tmp 48) rfl w.heap.size _ _ rfl A2 (l.length - i) (c - i) (l.drop i) rfl HW.out HP.out (by omega) (by omega) ?_
        intro v3 w3 H3 B3)
      go_ret2
      exact ⟨v3, rfl, by have := H3.out; rwa [List.append_assoc] at this, HB.out.trans B3.out⟩
set_option maxHeartbeats 2000000 in
theorem refIns_bad {w : World} {A : Option Addr} {c : Nat} {l : List Bool} (i n : Int) (v : Bool) (hi2 : i ≤ 9223372036854775807) (_hl : l.length ≤ 4096) (h : i < 0 ∨ (l.length : Int) < i ∨ n < 0) :
    Calls Tryd.prog 21 #[.slice A l.length c, .int .i64 i, .int .i64 n, .bool v] w fun e w' => e = .returned (.tuple #[.slice A l.length c, .int .i64 4]) ∧ w = w' := by
  go_enter Tryd.func21, Tryd.ntmps21
  rcases (show i < 0 ∨ (0 ≤ i ∧ (l.length : Int) < i) ∨ (0 ≤ i ∧ i ≤ l.length ∧ n < 0) by omega) with h | h | h
  all_goals
    go_wp2
    go_ret2
    exact ⟨rfl, rfl⟩
set_option maxHeartbeats 2000000 in
theorem refIns_many {w : World} {A : Option Addr} {c : Nat} {l : List Bool} (i n : Int) (v : Bool) (hl : l.length ≤ 4096) (h0 : 0 ≤ i) (h1 : i ≤ l.length) (hn : 4096 - (l.length : Int) < n) (_hn2 : n ≤ 9223372036854775807) :
    Calls Tryd.prog 21 #[.slice A l.length c, .int .i64 i, .int .i64 n, .bool v] w fun e w' => e = .returned (.tuple #[.slice A l.length c, .int .i64 3]) ∧ w = w' := by
  have h3 : ¬ (i < 0) := by omega
  have h4 : ¬ ((l.length : Int) < i) := by omega
  have h5 : ¬ (n < 0) := by omega
  go_enter Tryd.func21, Tryd.ntmps21
  go_wp2
  go_ret2
  exact ⟨rfl, rfl⟩
end Go.Proofs.YtbdjpacmbaoaeaaDoor
