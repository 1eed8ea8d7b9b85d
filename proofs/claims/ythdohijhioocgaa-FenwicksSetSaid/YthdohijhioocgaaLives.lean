/- The walk of lives: the chapter's examples hold. -/
import Derived.Test.YthdohijhioocgaaSetW
namespace Go.Proofs.Ythdohijhioocgaa
open Go.RowKit

theorem RdI.lit {W : World} {t : TypeId} {cs : Array Value} {zs : List Int} (h : ints zs = cs) : RdI (W.alloc (.cells cs t)) (W.alloc (.cells cs t)).heap.size (some ⟨W.heap.size, 0, none⟩) zs := fun k hk => by
  subst h
  refine ⟨W.heap.size, 0, rfl, by simp, ?_⟩
  rw [Nat.zero_add, cell_of_row _ W.heap.size k (ints zs) t (0, 0) (heap_alloc_new W _)]
  simp [ints, hk]
theorem RdI.lit1 {W : World} {t : TypeId} {cs : Array Value} {zs : List Int} (g : Nat) (hg : W.heap.size = g) (h : ints zs = cs) : RdI (W.alloc (.cells cs t)) (W.alloc (.cells cs t)).heap.size (some ⟨g, 0, none⟩) zs := hg ▸ RdI.lit h
theorem find_at {w : World} {b S : Nat} {l s : List Int} (h : Tr w b S l s) (x : Int) (i : Nat) (hp : Place l x i) (r : Int) (hr : x - pre l i = r) :
    Calls Try.prog 20 #[.pointer (some ⟨b, 0, none⟩), .int .i64 x] w fun e w' => e = .returned (.tuple #[.int .i64 i, .int .i64 r, .int .i64 0]) ∧ w = w' := by
  have h1 := h.vd.lo i
  have h2 := h.vd.mono (show i + 1 ≤ l.length from hp.lt)
  have h3 := hp.lo
  have h4 := hp.hi
  refine (find_tree h x (by omega) (by omega)).mono ?_
  rintro e w' ⟨j, hj, rfl, hw⟩
  obtain rfl := hj.uniq (fun k hk => (h.vd.each k hk).1) hp
  rw [hr]
  exact ⟨rfl, hw⟩

theorem sum_at {w : World} {b S : Nat} {l s : List Int} (h : Tr w b S l s) (x : Int) (i : Nat) (e : x = i) (hin : i ≤ l.length) (r : Int) (hr : pre l i = r) :
    Calls Try.prog 18 #[.pointer (some ⟨b, 0, none⟩), .int .i64 x] w fun e w' => e = .returned (.tuple #[.int .i64 r, .int .i64 0]) ∧ w = w' := by
  subst e
  subst hr
  exact sum_tree h i hin

def lA : List Int := [3, 0, 5, 2]
def lB : List Int := [3, 4, 5, 2]
theorem vdA : Vd lA := chk_zero.1 (by decide)
theorem vdB : Vd lB := chk_zero.1 (by decide)
theorem setA : lA.set 1 4 = lB := rfl

def At4 (v : Value) : Prop := v = .int .i64 0 ∨ v = .int .i64 1 ∨ v = .int .i64 2 ∨ v = .int .i64 3 ∨ v = .int .i64 4
def LivesOk : Prop := ∀ w : World, Calls Try.prog 9 #[] w fun e w' => e = .returned (.bool true) ∧ Below w.heap.size w w'
set_option maxRecDepth 100000 in
set_option maxHeartbeats 4000000 in
theorem lives_any : LivesOk := by
  intro w
  have hr0 := Lib.hid (RdI.lit (W := w) (t := 2) (cs := #[.int .i64 3, .int .i64 0, .int .i64 5, .int .i64 2]) (zs := lA) rfl)
  go_enter Try.func9, Try.ntmps9
  go_wp2_with fail
  refine (new_ok _ _ lA _ hr0.out vdA).mono ?_
  rintro e w1 ⟨b, S, s, rfl, HT0, hb0, hS0, hB0⟩
  have HB : Hid (Below w.heap.size w w1) := Lib.hid (((Below.refl _ _).alloc (Nat.le_refl _) _).trans (hB0.mono (by simp)))
  have hb : w.heap.size ≤ b := by simp at hb0; omega
  have hS : w.heap.size ≤ S := by simp at hS0; omega
  have HT := Lib.hid HT0
  have hw1 := HB.out.size
  clear HT0 hb0 hS0 hB0 hr0
  have hc0 := Lib.hid (sum_at HT.out 0 0 rfl (by decide) 0 rfl)
  have hc3 := Lib.hid (sum_at HT.out 3 3 rfl (by decide) 8 rfl)
  have hc4 := Lib.hid (sum_at HT.out 4 4 rfl (by decide) 10 rfl)
  have hc5 := Lib.hid (sum_out HT.out 5 (.inr (by decide)))
  have hln : Hid (Calls Try.prog 13 #[.pointer (some ⟨b, 0, none⟩)] w1 fun e w' => e = .returned (.int .i64 4) ∧ w1 = w') := Lib.hid (len_tree HT.out)
  have htt : Hid (Calls Try.prog 14 #[.pointer (some ⟨b, 0, none⟩)] w1 fun e w' => e = .returned (.int .i64 10) ∧ w1 = w') := Lib.hid (total_tree HT.out)
  go_wp2_with fail
  refine hc0.out.mono ?_
  rintro e w' ⟨rfl, rfl⟩
  go_wp2_with fail
  refine hc3.out.mono ?_
  rintro e w' ⟨rfl, rfl⟩
  go_wp2_with fail
  refine hc4.out.mono ?_
  rintro e w' ⟨rfl, rfl⟩
  go_wp2_with fail
  refine hc5.out.mono ?_
  rintro e w' ⟨rfl, rfl⟩
  go_wp2_with fail
  refine hln.out.mono ?_
  rintro e w' ⟨rfl, rfl⟩
  go_wp2_with fail
  refine htt.out.mono ?_
  rintro e w' ⟨rfl, rfl⟩
  go_wp2_with fail
  clear hc0 hc3 hc4 hc5 hln htt
  have HT2 := Lib.hid (HT.out.below ((Below.refl w1.heap.size w1).alloc (Nat.le_refl _) (.cells #[.int .i64 0, .int .i64 0, .int .i64 0, .int .i64 2, .int .i64 0, .int .i64 2, .int .i64 3, .int .i64 2, .int .i64 0, .int .i64 9, .int .i64 3, .int .i64 1] 55)))
  have HB2 := Lib.hid (HB.out.alloc hw1 (.cells #[.int .i64 0, .int .i64 0, .int .i64 0, .int .i64 2, .int .i64 0, .int .i64 2, .int .i64 3, .int .i64 2, .int .i64 0, .int .i64 9, .int .i64 3, .int .i64 1] 55))
  have f0 := Lib.hid (find_at HT2.out 0 0 ⟨by decide, by decide, by decide⟩ 0 rfl)
  have f2 := Lib.hid (find_at HT2.out 2 0 ⟨by decide, by decide, by decide⟩ 2 rfl)
  have f3 := Lib.hid (find_at HT2.out 3 2 ⟨by decide, by decide, by decide⟩ 0 rfl)
  have f9 := Lib.hid (find_at HT2.out 9 3 ⟨by decide, by decide, by decide⟩ 1 rfl)
  have f10 := Lib.hid (find_out HT2.out 10 (.inr (by decide)))
  go_loop [12] (fun k => At4 k) (fun k => 4 - (intOf k).toNat)
  case atStart => exact .inl rfl
  case round =>
    rcases hrel with rfl | rfl | rfl | rfl | rfl
    · go_wp2_with fail
      refine f0.out.mono ?_
      rintro e w' ⟨rfl, rfl⟩
      go_wp2_with fail
      go_round
      case rel => exact .inr (.inl rfl)
      case measure => decide
    · go_wp2_with fail
      refine f2.out.mono ?_
      rintro e w' ⟨rfl, rfl⟩
      go_wp2_with fail
      go_round
      case rel => exact .inr (.inr (.inl rfl))
      case measure => decide
    · go_wp2_with fail
      refine f3.out.mono ?_
      rintro e w' ⟨rfl, rfl⟩
      go_wp2_with fail
      go_round
      case rel => exact .inr (.inr (.inr (.inl rfl)))
      case measure => decide
    · go_wp2_with fail
      refine f9.out.mono ?_
      rintro e w' ⟨rfl, rfl⟩
      go_wp2_with fail
      go_round
      case rel => exact .inr (.inr (.inr (.inr rfl)))
      case measure => decide
    · go_wp2_with fail
      refine f10.out.mono ?_
      rintro e w' ⟨rfl, rfl⟩
      go_wp2_with fail
      have hset := Lib.hid (set_ok HT2.out 1 (by decide) 4 (by decide) (by decide) (by decide))
      refine hset.out.mono ?_
      rintro e w3 ⟨rfl, s3, HT3, hg3⟩
      have HB3 := Lib.hid (HB2.out.grown hg3 HB2.out.size (by intro g h; injection h with h; omega))
      have HT3' : Hid (Tr w3 b S lB s3) := Lib.hid HT3
      have hw3 := HB3.out.size
      clear HT3 hg3
      have h3 := Lib.hid (find_at HT3'.out 3 1 ⟨by decide, by decide, by decide⟩ 0 rfl)
      have hr4 := Lib.hid (RdI.lit (W := w3) (t := 2) (cs := #[.int .i64 (-1)]) (zs := [-1]) rfl)
      go_wp2_with fail
      refine h3.out.mono ?_
      rintro e w' ⟨rfl, rfl⟩
      go_wp2_with fail
      refine (new_bad _ _ [-1] _ hr4.out (by decide) (by decide)).mono ?_
      rintro e w4 ⟨rfl, rfl⟩
      go_wp2_with fail
      have hr5 := Lib.hid (RdI.lit1 (W := w3.alloc (.cells #[.int .i64 (-1)] 2)) (t := 2) (cs := #[.int .i64 2305843009213693952, .int .i64 2305843009213693952, .int .i64 1]) (zs := [2305843009213693952, 2305843009213693952, 1]) (w3.heap.size + 1) (by simp) rfl)
      have HB5 := Lib.hid ((HB3.out.alloc hw3 (.cells #[.int .i64 (-1)] 2)).alloc (by simp; omega) (.cells #[.int .i64 2305843009213693952, .int .i64 2305843009213693952, .int .i64 1] 2))
      have ht5 : Hid (Calls Try.prog 14 #[.pointer (some ⟨b, 0, none⟩)] ((w3.alloc (.cells #[.int .i64 (-1)] 2)).alloc (.cells #[.int .i64 2305843009213693952, .int .i64 2305843009213693952, .int .i64 1] 2)) fun e w' => e = .returned (.int .i64 14) ∧ ((w3.alloc (.cells #[.int .i64 (-1)] 2)).alloc (.cells #[.int .i64 2305843009213693952, .int .i64 2305843009213693952, .int .i64 1] 2)) = w') :=
        Lib.hid (total_tree (HT3'.out.below (((Below.refl w3.heap.size w3).alloc (Nat.le_refl _) _).alloc (by simp) _)))
      refine (new_bad _ _ [2305843009213693952, 2305843009213693952, 1] _ hr5.out (by decide) (by decide)).mono ?_
      rintro e w5 ⟨rfl, rfl⟩
      go_wp2_with fail
      refine ht5.out.mono ?_
      rintro e w5 ⟨rfl, rfl⟩
      go_wp2_with fail
      go_ret
      exact ⟨rfl, HB5.out⟩
end Go.Proofs.Ythdohijhioocgaa
