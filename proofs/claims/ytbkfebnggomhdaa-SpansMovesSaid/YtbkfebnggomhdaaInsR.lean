/- The walks of the reference's Insert and Remove. -/
import Derived.Maps.AppendAt
import Derived.Test.YtbkfebnggomhdaaThree
namespace Go.Proofs.Ytbkfebnggomhdaa
open Go.RowKit
theorem bl_len (l : List Bool) : (bl l).length = l.length := by simp [bl]
theorem bl_apps (l m : List Bool) : bl (l ++ m) = bl l ++ bl m := by simp [bl]
theorem bl_one (l : List Bool) : ∀ u ∈ bl l, u.oneCell' = true := by
  intro u hu
  obtain ⟨x, _, rfl⟩ := List.mem_map.1 hu
  rfl
theorem RdB.news {w : World} {B b o : Nat} {ms : List Bool} (h : RdB w B (some ⟨b, o, none⟩) ms) (k : Nat) (j : Nat) (u : Value) (hu : (bl (ms.drop k))[j]? = some u) : w.cell? ((⟨b, o + k, none⟩ : Addr).add j) = some u := by
  rw [add_plain0]
  have hj : k + j < ms.length := by
    have := (List.getElem?_eq_some_iff.1 hu).1
    rw [bl_len, List.length_drop] at this; omega
  obtain ⟨b', o', e, _, h1⟩ := h (k + j) hj
  injection e with e
  injection e with e1 e2
  subst e1; subst e2
  rw [Nat.add_assoc, h1, ← hu]
  simp [bl, hj]
theorem RdB.newsT {w : World} {B b o : Nat} {ms : List Bool} (h : RdB w B (some ⟨b, o, none⟩) ms) (k : Nat) (j : Nat) (u : Value) (hu : (bl (ms.take k))[j]? = some u) : w.cell? ((⟨b, o, none⟩ : Addr).add j) = some u := by
  have h0 := (h.take k).news 0 j u (by simpa using hu)
  simpa using h0
theorem OwnB.apps {w : World} {base : Nat} {v : Value} {l m : List Bool} {n : Nat} (h : w.ownsRow base 4 1 v (l.length + n) (bl l ++ bl m)) (hn : n = m.length) : OwnB w base v (l ++ m) := by
  unfold OwnB; rw [bl_apps, List.length_append, ← hn]; exact h
/-- what Insert of marks hands back -/
def insB (ms : List Bool) (at_ n : Nat) : List Bool := (ms.take at_ ++ List.replicate n false) ++ ms.drop at_
theorem rep_succ (l : List Bool) (k : Nat) : (l ++ List.replicate k false) ++ [false] = l ++ List.replicate (k + 1) false := by
  rw [List.append_assoc, List.replicate_succ']

set_option maxHeartbeats 2000000 in
theorem refInsert_any (b o c : Nat) (ms : List Bool) (at_ n : Nat) (w : World) (hr : RdB w w.heap.size (some ⟨b, o, none⟩) ms) (hc : ms.length ≤ c) (hl : ms.length ≤ 1000000) (ha : at_ < ms.length) (hn : n ≤ 1000000) :
    Calls Try.prog 27 #[.slice (some ⟨b, o, none⟩) ms.length c, .int .i64 at_, .int .i64 n] w fun e w' => ∃ v, e = .returned v ∧ OwnB w' w.heap.size v (insB ms at_ n) ∧ Below w.heap.size w w' := by
  obtain ⟨i0, hi0, hz0, hz1, hz2⟩ := info_parts Try.info4
  have h1 : (0 : Int) ≤ (at_ : Int) := by omega
  have h2 : (at_ : Int) ≤ (c : Int) := by omega
  have h3 : (at_ : Int) ≤ (ms.length : Int) := by omega
  have h4 : ¬ c = at_ := by omega
  have hb0 : Below w.heap.size w (w.alloc (.cells #[] 4)) := (Below.refl _ _).alloc (Nat.le_refl _) _
  have hown0 : (w.alloc (.cells #[] 4)).ownsRow w.heap.size 4 1 (.slice (some ⟨w.heap.size, 0, none⟩) 0 0) 0 [] := World.ownsRow_made w #[] 0 (Nat.le_refl _) (by simp [maxLen]) rfl
  have hr0 := hr.below hb0
  have htl : (ms.take at_).length = at_ := by rw [List.length_take]; omega
  go_enter Try.func27, Try.ntmps27
  go_wp2_with (
    at_builtin
    refine wpList_append_own_at _ rfl (.tmp 9) (.tmp 12) _ rfl w.heap.size 4 i0 (.bool false) 1 1 Try.underlying39 hi0 hz0 hz1 hz2 rfl (by omega) _ 0 [] rfl hown0
      ⟨b, o, none⟩ at_ c (bl (ms.take at_)) rfl (by rw [bl_len, htl]; omega) (hr0.newsT at_) (bl_one _)
      (by simp [maxLen]; omega) (by omega) (by simp) ?_
    intro v1 w1 hown1 hgrow hnil hat
    have ho1 : OwnB w1 w.heap.size v1 (ms.take at_) := by
      unfold OwnB; rw [htl]; simpa using hown1
    have hb1 : Below w.heap.size w w1 := hb0.grown hgrow (by simp) (fun j e => (hown0.lt j e).1)
    clear hown1 hgrow hnil hat)
  go_loopw [7, 8] (fun v i wr => ∃ (k : Nat), k ≤ n ∧ i = .int .i64 k ∧ OwnB wr w.heap.size v (ms.take at_ ++ List.replicate k false) ∧ Below w.heap.size w wr) (fun _ i _ => n - (intOf i).toNat)
  case atStart => exact ⟨0, Nat.zero_le _, rfl, by simpa using ho1, hb1⟩
  case round =>
    obtain ⟨k, hk, rfl, hown, hb⟩ := hrel
    have hsz := hb.size
    have hln : (ms.take at_ ++ List.replicate k false).length = at_ + k := by rw [List.length_append, htl]; simp
    have hln2 : (ms.take at_ ++ List.replicate k false).length ≤ 2000000 := by omega
    by_cases hlt : k < n
    · clear hln
      have HS := Lib.hid (rep_succ (ms.take at_) k)
      have hltI : (k : Int) < (n : Int) := by omega
      unfold OwnB at hown
      generalize ms.take at_ ++ List.replicate k false = l at *
      clear htl ho1
      go_wp2_with (
        at_builtin
        refine wpList_append_lies _ rfl (.tmp 19) (.tmp 20) _ rfl w.heap.size 4 i0 (.bool false) 1 1 Try.underlying39 hi0 hz0 hz1 hz2 rfl (by omega) u7 l.length (bl l) rfl (World.ownsRow.alloc hown _)
          ⟨wr.heap.size, 0, none⟩ 1 1 [.bool false] rfl rfl (World.news_of_block (cs := #[.bool false]) (t := 4) (fr := (0, 0)) (heap_alloc_new wr _)) (by simp [Value.oneCell'])
          (by omega) (by simp [maxLen]; omega) (by omega) (by simp; omega) (wr.heap.size + 1) (by simp) ?_
        intro gg cap w2 hown2 hgrow hat hlt1
        have ho2 := OwnB.app hown2
        have hb3 : Below w.heap.size w w2 := (hb.alloc hsz _).grown hgrow (by simp; omega) (fun j e => (hown.lt j e).1)
        clear hown2 hgrow hat hlt1)
      go_roundw
      case rel => exact ⟨k + 1, by omega, by go_num, by rw [← HS.out]; exact ho2, hb3⟩
      case measure => simp [intOf]; omega
    · have hkk : k = n := by omega
      subst hkk
      have hr2 := hr.below hb
      have hdl : (ms.drop at_).length = ms.length - at_ := by rw [List.length_drop]
      unfold OwnB at hown
      go_wp2_with (
        at_builtin
        refine wpList_append_own_at _ rfl (.tmp 22) (.tmp 25) _ rfl w.heap.size 4 i0 (.bool false) 1 1 Try.underlying39 hi0 hz0 hz1 hz2 rfl (by omega) u7 _ _ rfl hown
          ⟨b, o + at_, none⟩ (ms.length - at_) (c - at_) (bl (ms.drop at_)) rfl (by rw [bl_len, hdl]; omega) (hr2.news at_) (bl_one _)
          (by simp [maxLen]; omega) (by omega) (by omega) ?_
        intro v3 w3 hown3 hgrow hnil hat
        have ho3 := OwnB.apps hown3 hdl.symm
        have hb3 : Below w.heap.size w w3 := hb.grown hgrow (by omega) (fun j e => (hown.lt j e).1)
        clear hown3 hgrow hnil hat)
      go_ret
      exact ⟨_, rfl, ho3, hb3⟩

/-- what Remove of marks hands back -/
def remB (ms : List Bool) (at_ n : Nat) : List Bool := ms.take at_ ++ ms.drop (at_ + n)
set_option maxHeartbeats 2000000 in
theorem refRemove_any (b o c : Nat) (ms : List Bool) (at_ n : Nat) (w : World) (hr : RdB w w.heap.size (some ⟨b, o, none⟩) ms) (hc : ms.length ≤ c) (hl : ms.length ≤ 1000000) (ha : at_ < ms.length) (hn : n ≤ 1000000) :
    Calls Try.prog 28 #[.slice (some ⟨b, o, none⟩) ms.length c, .int .i64 at_, .int .i64 n] w fun e w' => ∃ v, e = .returned v ∧ OwnB w' w.heap.size v (remB ms at_ n) ∧ Below w.heap.size w w' := by
  obtain ⟨i0, hi0, hz0, hz1, hz2⟩ := info_parts Try.info4
  have h1 : (0 : Int) ≤ (at_ : Int) := by omega
  have h2 : (at_ : Int) ≤ (c : Int) := by omega
  have h3 : (at_ : Int) ≤ (ms.length : Int) := by omega
  have hb0 : Below w.heap.size w (w.alloc (.cells #[] 4)) := (Below.refl _ _).alloc (Nat.le_refl _) _
  have hown0 : (w.alloc (.cells #[] 4)).ownsRow w.heap.size 4 1 (.slice (some ⟨w.heap.size, 0, none⟩) 0 0) 0 [] := World.ownsRow_made w #[] 0 (Nat.le_refl _) (by simp [maxLen]) rfl
  have hr0 := hr.below hb0
  have htl : (ms.take at_).length = at_ := by rw [List.length_take]; omega
  by_cases hlt : at_ + n < ms.length
  · have h5 : ((at_ : Int) + (n : Int)) < (ms.length : Int) := by omega
    have h6 : ¬ c = at_ + n := by omega
    have h7 : ((at_ : Int) + (n : Int)).toNat = at_ + n := by omega
    have hdl : (ms.drop (at_ + n)).length = ms.length - (at_ + n) := by rw [List.length_drop]
    go_enter Try.func28, Try.ntmps28
    go_wp2_with (first
      | (at_builtin
         refine wpList_append_own_at _ rfl (.tmp 8) (.tmp 11) _ rfl w.heap.size 4 i0 (.bool false) 1 1 Try.underlying39 hi0 hz0 hz1 hz2 rfl (by omega) _ 0 [] rfl hown0
           ⟨b, o, none⟩ at_ c (bl (ms.take at_)) rfl (by rw [bl_len, htl]; omega) (hr0.newsT at_) (bl_one _)
           (by simp [maxLen]; omega) (by omega) (by simp) ?_
         intro v1 w1 hown1 hgrow hnil hat
         have ho1 : w1.ownsRow w.heap.size 4 1 v1 (ms.take at_).length (bl (ms.take at_)) := by
           rw [htl]; simpa using hown1
         have hb1 : Below w.heap.size w w1 := hb0.grown hgrow (by simp) (fun j e => (hown0.lt j e).1)
         have hr2 := hr.below hb1
         have hsz1 := hb1.size
         clear hown1 hgrow hnil hat)
      | (at_builtin
         refine wpList_append_own_at _ rfl (.tmp 19) (.tmp 24) _ rfl w.heap.size 4 i0 (.bool false) 1 1 Try.underlying39 hi0 hz0 hz1 hz2 rfl (by omega) v1 _ _ rfl ho1
           ⟨b, o + (at_ + n), none⟩ (ms.length - (at_ + n)) (c - (at_ + n)) (bl (ms.drop (at_ + n))) rfl (by rw [bl_len, hdl]; omega) (hr2.news (at_ + n)) (bl_one _)
           (by simp [maxLen]; omega) (by omega) (by omega) ?_
         intro v3 w3 hown3 hgrow hnil hat
         have ho3 := OwnB.apps hown3 hdl.symm
         have hb3 : Below w.heap.size w w3 := hb1.grown hgrow (by omega) (fun j e => (ho1.lt j e).1)
         clear hown3 hgrow hnil hat))
    go_ret
    exact ⟨_, rfl, ho3, hb3⟩
  · have h5 : ¬ ((at_ : Int) + (n : Int)) < (ms.length : Int) := by omega
    have hdr : remB ms at_ n = ms.take at_ := by unfold remB; rw [List.drop_eq_nil_of_le (by omega), List.append_nil]
    rw [hdr]
    go_enter Try.func28, Try.ntmps28
    go_wp2_with (
      at_builtin
      refine wpList_append_own_at _ rfl (.tmp 8) (.tmp 11) _ rfl w.heap.size 4 i0 (.bool false) 1 1 Try.underlying39 hi0 hz0 hz1 hz2 rfl (by omega) _ 0 [] rfl hown0
        ⟨b, o, none⟩ at_ c (bl (ms.take at_)) rfl (by rw [bl_len, htl]; omega) (hr0.newsT at_) (bl_one _)
        (by simp [maxLen]; omega) (by omega) (by simp) ?_
      intro v1 w1 hown1 hgrow hnil hat
      have ho1 : OwnB w1 w.heap.size v1 (ms.take at_) := by
        unfold OwnB; rw [htl]; simpa using hown1
      have hb1 : Below w.heap.size w w1 := hb0.grown hgrow (by simp) (fun j e => (hown0.lt j e).1)
      clear hown1 hgrow hnil hat)
    go_ret
    exact ⟨_, rfl, ho1, hb1⟩
end Go.Proofs.Ytbkfebnggomhdaa
