/- The walks of part and List. -/
import Derived.Test.YtecoobeddjfegaaPutI
namespace Go.Proofs.Ytecoobeddjfegaa
open Go.RowKit

/-- what part hands back: a row of its own -/
def iGot (w : World) (ys : List Value) (k : Nat) (r : Ending) (w' : World) : Prop :=
  ∃ G, r = .returned (.slice (some ⟨G, 0, none⟩) k k) ∧ w.heap.size ≤ G ∧ w'.heap[G]? = some (.cells ys.toArray 3 (0, 0)) ∧ Below w.heap.size w w'
set_option maxHeartbeats 2000000 in
theorem ipart_more {w : World} {b S N g e n : Nat} {A : Option Addr} {xs : List Value} (h : Buf 3 39 w b A S N g e n xs) (i k : Nat) (hik : i + k ≤ n) (hN : 0 < N) :
    Calls Try.prog 28 #[.pointer (some ⟨b, 0, none⟩), .int .i64 i, .int .i64 k] w (iGot w ((xs.drop i).take k) k) := by
  have h1 := h.ge
  have h2 := h.eN
  have h3 := h.max
  have h4 := h.gn
  have s1 := h.s1
  have s2 := h.s2
  obtain ⟨rfl, vals, hrow, hlay⟩ := h.row hN
  obtain ⟨m, hm, hm1, hm2, hm3⟩ : ∃ m : Nat, (if g < i then (g : Int) else (i : Int)) = (m : Int) ∧ m ≤ i ∧ m ≤ g ∧ m = min i g := ⟨min i g, by split <;> omega, by omega, by omega, rfl⟩
  obtain ⟨c, hc⟩ : ∃ c : Nat, c = min (g - m) k := ⟨_, rfl⟩
  have k1 : k ≤ 4096 := by omega
  have n2 : g ≤ N := by omega
  have hmk := imake_row (k : Int) k rfl (by omega)
  have HB := Lib.hid h
  have HROW := Lib.hid hrow
  have HLAY := Lib.hid hlay
  have HM := Lib.hid hm3
  have HC := Lib.hid hc
  clear h hrow hlay hm3 hc
  go_enter Try.func28, Try.ntmps28
  go_wp2_with fail
  have lb : b < w.heap.size := lt_of_block HB.out.box
  have lS : S < w.heap.size := lt_of_block HROW.out
  obtain ⟨H, hH⟩ : ∃ H, H = w.heap.size := ⟨_, rfl⟩
  obtain ⟨W1, HB1, HRW, HNW, HF1, hW⟩ : ∃ W1 : World, Hid (Buf 3 39 W1 b (some ⟨S, 0, none⟩) S N g e n xs) ∧ Hid (W1.heap[S]? = some (.cells vals.toArray 3 (0, 0))) ∧
      Hid (W1.heap[H]? = some (.cells (List.replicate k (.int .i64 0)).toArray 3 (0, 0))) ∧ Hid (Below w.heap.size w W1) ∧ W1 = w.alloc (.cells (Array.replicate k (.int .i64 0)) 3) :=
    ⟨_, HB.out.alloc _, (Below.heap_alloc w _ S lS).trans HROW.out, Lib.hid (by rw [hH, List.toArray_replicate]; exact heap_alloc_new w (.cells (Array.replicate k (.int .i64 0)) 3)), (Below.refl _ _).alloc (Nat.le_refl _) _, rfl⟩
  rw [← hW]
  rw [← hH] at lb lS
  have HH := Lib.hid hH
  have HBH : Hid (b ≠ H ∧ S ≠ H) := Lib.hid ⟨by omega, by omega⟩
  simp only [← hH]
  clear hW hH lb lS HROW hmk
  have c0 := HB1.out.c0
  have c1 := HB1.out.c1
  obtain ⟨X0, hX0⟩ : ∃ X0, (if N = m then some (⟨S, 0, none⟩ : Addr) else some ⟨S, m, none⟩) = X0 := ⟨_, rfl⟩
  go_still_tail 16, (by kernel_rfl)
  change wpList _ _ _ _ _ W1.drew
  have hl := HLAY.out.len
  have hcc := HC.out
  obtain ⟨xa, hxa, hxl⟩ : ∃ xa, xa = (vals.drop m).take c ∧ xa.length = c := ⟨_, rfl, by simp; omega⟩
  obtain ⟨xb, hxb, hyl⟩ : ∃ xb, xb = (vals.drop (i + c + (e - g))).take (k - c) ∧ xb.length = k - c := ⟨_, rfl, by simp; omega⟩
  have HXA := Lib.hid hxa
  have HXB := Lib.hid hxb
  have HXL := Lib.hid hxl
  have HYL := Lib.hid hyl
  obtain ⟨s, hs, hs1⟩ : ∃ s : Nat, (i : Int) + c = (s : Int) ∧ s = i + c := ⟨i + c, by omega, rfl⟩
  obtain ⟨t, ht, ht1⟩ : ∃ t : Nat, (s : Int) + ((e : Int) - g) = (t : Int) ∧ t = i + c + (e - g) := ⟨i + c + (e - g), by omega, rfl⟩
  have u1 : c ≤ k := by omega
  have u2 : t ≤ N := by omega
  have u3 : s ≤ 4096 := by omega
  have u4 : k - c ≤ N - t := by omega
  have HT := Lib.hid ht1
  obtain ⟨X1, hX1⟩ : ∃ X1, (if k = c then some (⟨H, 0, none⟩ : Addr) else some ⟨H, c, none⟩) = X1 := ⟨_, rfl⟩
  obtain ⟨X2, hX2⟩ : ∃ X2, (if N = t then some (⟨S, 0, none⟩ : Addr) else some ⟨S, t, none⟩) = X2 := ⟨_, rfl⟩
  have HO : Hid (∀ v ∈ xb, v.oneCell' = true) := Lib.hid (by
    rw [hxb]
    by_cases hk : k - c = 0
    · rw [hk]; simp
    · have := HM.out
      exact HLAY.out.part_one2 HB.out.one _ _ (by omega) (by omega))
  have v1 : IntKind.i64.wrap ((i : Int) + (c : Int)) = (s : Int) := (IntWalk.i64_in _ (by omega)).trans hs
  have v2 : IntKind.i64.wrap ((s : Int) + ((e : Int) - (g : Int))) = (t : Int) := (IntWalk.i64_in _ (by omega)).trans ht
  clear hl hxa hxb hxl hyl hs1 ht1 hs ht
  refine wp_copy rfl (.tmp 11) (.tmp 26) 22 22 rfl 3 Try.underlying22 Try.one3 _ _ _ _ _ _ rfl rfl H 0 _ 3 HNW.out xa ?_ ?_ ?_ ?_ ?_
  · rw [HXL.out]
    show _ = min _ _
    omega
  · intro h0
    rw [HXL.out] at h0
    exact ⟨rfl, ⟨S, m, none⟩, by rw [← hX0, if_neg (by omega)], by rw [HXA.out]; exact row_part HRW.out m c⟩
  · rw [HXL.out]
    simp
    omega
  · rw [HXA.out]
    exact HLAY.out.part_one HB.out.one m c (by omega)
  intro W2 HR3 HF3
  rw [HXL.out]
  have HB2 : Hid (Buf 3 39 W2 b (some ⟨S, 0, none⟩) S N g e n xs) := Lib.hid (HB1.out.frame ((HF3.out H).block b (lt_of_block HB1.out.box) HBH.out.1 HBH.out.1) (fun hN => (HF3.out H).block S (lt_of_block HRW.out) HBH.out.2 HBH.out.2))
  have HRW2 := Lib.hid (((HF3.out H).block S (lt_of_block HRW.out) HBH.out.2 HBH.out.2).trans HRW.out)
  have HF2 : Hid (Below H w W2) := Lib.hid (by
    have h1 := HF1.out
    rw [← HH.out] at h1
    exact h1.trans ((((Fr.refl W1 H H).drewN 1).trans (HF3.out H)).below (Nat.le_refl _) (Nat.le_refl _) (by rw [HH.out]; exact HF1.out.size)))
  clear c0 c1 hcc hm
  go_wp2_with fail
  have c0 := HB2.out.c0
  have K1 : Hid (Calls Try.prog 27 #[.pointer (some ⟨b, 0, none⟩)] W2.drew fun r w' => r = .returned (.int .i64 ((e : Int) - g)) ∧ ∃ k, w' = W2.drew.drewN k) := Lib.hid (iroom_any (HB2.out.drewN 1))
  go_region_held3 (fun W => W.cell? ⟨b, 0, none⟩ = some (.slice (some ⟨S, 0, none⟩) N N))
    (first
      | exact c0
      | exact c3)
    (first
      | (go_at_call 27; refine K1.out.mono ?_; rintro q w' ⟨rfl, j, rfl⟩)
      | (refine step_copy rfl (.tmp 30) (.tmp 41) 22 22 rfl 3 Try.underlying22 Try.one3 _ _ _ _ _ _ rfl rfl H c _ 3 HR3.out xb (by rw [HYL.out]; show _ = min _ _; omega)
          (fun h0 => ⟨by rw [HYL.out] at h0; rw [← hX1, if_neg (by omega)], ⟨S, t, none⟩, by rw [HYL.out] at h0; rw [← hX2, if_neg (by omega)], by rw [HXB.out, ← HT.out]; exact row_part HRW2.out t (k - c)⟩)
          (by rw [HYL.out, length_splice _ _ _ (by rw [HXL.out]; simp; omega)]; simp; omega) HO.out ?_
         intro w3 HR4 HF4
         have c3 : w3.cell? ⟨b, 0, none⟩ = some (.slice (some ⟨S, 0, none⟩) N N) := (World.cell?_of_block ((HF4.out H).block b (lt_of_block HB2.out.box) HBH.out.1 HBH.out.1)).trans c0))
  go_wp2_with fail
  go_ret
  have L := HLAY.out.part i k m c (.int .i64 0) hik HM.out HC.out
  rw [← HXA.out, ← HXB.out] at L
  have hr := HR4.out
  rw [L] at hr
  refine ⟨H, rfl, by rw [HH.out]; exact Nat.le_refl _, hr, ?_⟩
  rw [← HH.out]
  exact HF2.out.trans (((Fr.refl W2 H H).drewN (1 + j)).trans (HF4.out H) |>.below (Nat.le_refl _) (Nat.le_refl _) (by have := HF2.out.size; have := HH.out; omega))
set_option maxHeartbeats 2000000 in
theorem ipart_zero {w : World} {b S g e n : Nat} {A : Option Addr} {xs : List Value} (h : Buf 3 39 w b A S 0 g e n xs) (i k : Nat) (hik : i + k ≤ n) :
    Calls Try.prog 28 #[.pointer (some ⟨b, 0, none⟩), .int .i64 i, .int .i64 k] w (iGot w ((xs.drop i).take k) k) := by
  have h1 := h.ge
  have h2 := h.eN
  have s2 := h.s2
  have h0 := h.zero rfl
  obtain rfl : e = 0 := by omega
  obtain rfl : g = 0 := by omega
  obtain rfl : n = 0 := by omega
  obtain rfl : i = 0 := by omega
  obtain rfl : k = 0 := by omega
  subst h0
  obtain rfl : xs = [] := List.eq_nil_of_length_eq_zero h.len
  have hmk := imake_row 0 0 rfl (by omega)
  have HB := Lib.hid h
  clear h h1 h2 s2
  go_enter Try.func28, Try.ntmps28
  go_wp2_with fail
  have lb : b < w.heap.size := lt_of_block HB.out.box
  obtain ⟨H, hH⟩ : ∃ H, H = w.heap.size := ⟨_, rfl⟩
  obtain ⟨W1, HB1, HNW, HF1, hW⟩ : ∃ W1 : World, Hid (W1.heap[b]? = some (.cells #[.slice none 0 0, .int .i64 0, .int .i64 0] 39 (0, 0))) ∧
      Hid (W1.heap[H]? = some (.cells (List.toArray ([] : List Value)) 3 (0, 0))) ∧ Hid (Below w.heap.size w W1) ∧ W1 = w.alloc (.cells #[] 3) :=
    ⟨_, (Below.heap_alloc w _ b lb).trans HB.out.box, Lib.hid (by rw [hH]; exact heap_alloc_new w (.cells #[] 3)), (Below.refl _ _).alloc (Nat.le_refl _) _, rfl⟩
  rw [← hW]
  have HH := Lib.hid hH
  simp only [← hH]
  clear hW hH lb hmk
  have c0 : W1.cell? ⟨b, 0, none⟩ = some (.slice none 0 0) := by rw [cell_of_row W1 b 0 _ 39 (0, 0) HB1.out]; rfl
  have c1 : W1.cell? ⟨b, 1, none⟩ = some (.int .i64 0) := by rw [cell_of_row W1 b 1 _ 39 (0, 0) HB1.out]; rfl
  go_still_tail 16, (by kernel_rfl)
  change wpList _ _ _ _ _ W1.drew
  refine wpList_copy_nothing rfl (.tmp 11) (.tmp 26) 22 22 rfl 3 Try.underlying22 Try.one3 _ _ _ _ _ _ rfl rfl ?_ ?_
  · rfl
  obtain ⟨W2, HB2, HNW2, HF2, hW⟩ : ∃ W2 : World, Hid (W2.heap[b]? = some (.cells #[.slice none 0 0, .int .i64 0, .int .i64 0] 39 (0, 0))) ∧
      Hid (W2.heap[H]? = some (.cells (List.toArray ([] : List Value)) 3 (0, 0))) ∧ Hid (Below w.heap.size w W2) ∧ W2 = W1.drew :=
    ⟨W1.drew, HB1.out, HNW.out, HF1.out.drew, rfl⟩
  rw [← hW]
  clear hW c0 c1 HB1 HNW HF1
  go_wp2_with fail
  have c0 : W2.cell? ⟨b, 0, none⟩ = some (.slice none 0 0) := by rw [cell_of_row W2 b 0 _ 39 (0, 0) HB2.out]; rfl
  have HB3 : Hid (Buf 3 39 W2.drew b none S 0 0 0 0 []) := Lib.hid ⟨HB2.out, fun hN => absurd hN (by omega), fun _ => rfl, rfl, Nat.le_refl _, Nat.le_refl _, Nat.le_refl _, Nat.le_refl _, Nat.le_refl _, by omega, by simp, HB.out.ne⟩
  have K1 : Hid (Calls Try.prog 27 #[.pointer (some ⟨b, 0, none⟩)] W2.drew fun r w' => r = .returned (.int .i64 0) ∧ ∃ k, w' = W2.drew.drewN k) := Lib.hid (iroom_any HB3.out)
  have v1 : IntKind.i64.wrap 0 = 0 := rfl
  have v2 : IntKind.i64.wrap (0 + 0) = 0 := rfl
  go_region_held3 (fun W => W.cell? ⟨b, 0, none⟩ = some (.slice none 0 0))
    (first
      | exact c0
      | exact c3)
    (first
      | (go_at_call 27; refine K1.out.mono ?_; rintro q w' ⟨rfl, j, rfl⟩)
      | (refine step_copy rfl (.tmp 30) (.tmp 41) 22 22 rfl 3 Try.underlying22 Try.one3 _ _ _ _ _ _ rfl rfl H 0 [] 3 HNW2.out [] rfl (fun h0 => absurd h0 (by simp)) (by simp) (by simp) ?_
         intro w3 HR4 HF4
         have c3 : w3.cell? ⟨b, 0, none⟩ = some (.slice none 0 0) := (World.cell?_of_block ((HF4.out H).block b (lt_of_block HB2.out) (by have := lt_of_block HB.out.box; have := HH.out; omega) (by have := lt_of_block HB.out.box; have := HH.out; omega))).trans c0))
  go_wp2_with fail
  go_ret
  refine ⟨H, rfl, by rw [HH.out]; exact Nat.le_refl _, HR4.out, ?_⟩
  exact HF2.out.trans (((Fr.refl W2 H H).drewN (1 + j)).trans (HF4.out H) |>.below (Nat.le_of_eq HH.out.symm) (Nat.le_of_eq HH.out.symm) HF2.out.size)
theorem ipart_any {w : World} {b S N g e n : Nat} {A : Option Addr} {xs : List Value} (h : Buf 3 39 w b A S N g e n xs) (i k : Nat) (hik : i + k ≤ n) :
    Calls Try.prog 28 #[.pointer (some ⟨b, 0, none⟩), .int .i64 i, .int .i64 k] w (iGot w ((xs.drop i).take k) k) := by
  rcases Nat.eq_zero_or_pos N with h0 | h0
  · subst h0
    exact ipart_zero h i k hik
  · exact ipart_more h i k hik h0
theorem ilist_any {w : World} {b S N g e n : Nat} {A : Option Addr} {xs : List Value} (h : Buf 3 39 w b A S N g e n xs) :
    Calls Try.prog 13 #[.pointer (some ⟨b, 0, none⟩)] w (iGot w xs n) := by
  have HL := Lib.hid (ilen_any h)
  have HP : Hid (∀ m, Calls Try.prog 28 #[.pointer (some ⟨b, 0, none⟩), .int .i64 0, .int .i64 n] (w.drewN m) (iGot (w.drewN m) xs n)) := Lib.hid (fun m => by
    have := ipart_any (h.drewN m) 0 n (by omega)
    rwa [List.drop_zero, List.take_of_length_le (Nat.le_of_eq h.len)] at this)
  clear h
  go_enter Try.func13, Try.ntmps13
  go_wp2_with fail
  refine HL.out.mono ?_
  rintro r w' ⟨rfl, m, rfl⟩
  go_wp2_with fail
  refine (HP.out m).mono ?_
  rintro r w' ⟨G, rfl, hG, hr, hb⟩
  have HR := Lib.hid hr
  have HBL : Hid (Below w.heap.size w w') := Lib.hid ⟨hb.os, hb.tape, hb.output, hb.size, hb.block⟩
  clear hr hb
  go_wp2_with fail
  go_ret
  exact ⟨G, rfl, hG, HR.out, HBL.out⟩
theorem ilist_nil {w : World} : Calls Try.prog 13 #[.pointer none] w fun r w' => r = .returned (.slice none 0 0) ∧ w' = w := by
  go_enter Try.func13, Try.ntmps13
  go_wp2
  go_ret
  exact ⟨rfl, rfl⟩
end Go.Proofs.Ytecoobeddjfegaa
