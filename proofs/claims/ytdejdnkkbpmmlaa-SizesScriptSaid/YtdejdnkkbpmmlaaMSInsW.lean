/- The walk of Insert. -/
import Derived.Test.YtdejdnkkbpmmlaaMSMove
import Derived.Test.YtdejdnkkbpmmlaaMSCombAux
namespace Go.Proofs.Ytdejdnkkbpmmlaa.S
open Go.RowKit
set_option maxRecDepth 100000 in
set_option maxHeartbeats 2000000 in
theorem rem_ok (A : Option Addr) (c : Nat) (xs : List Sp) (at_ n : Int) (w : World) (hr : Rd w w.heap.size A xs) (h0 : chk xs = 0) (ha0 : 0 ≤ at_) (ha1 : at_ ≤ 1073741824) (hn0 : 0 ≤ n) (hn1 : n ≤ 1073741824) :
    Calls Try.prog 41 #[.slice A xs.length c, .int .i64 at_, .int .i64 n] w fun e w' => SetRes w.heap.size (remM xs at_ n) e w' ∧ Below w.heap.size w w' := by
  have hlen := chk_len h0
  have h0' : (chk xs != 0) = false := by rw [h0]; rfl
  have wa : Hid (∀ W, Calls Try.prog 55 #[.int .i64 at_] W fun e w' => e = .returned (.bool true) ∧ W = w') := fun W => (within_any at_ W).mono (by rw [okP_t ha0 ha1]; exact fun _ _ h => h)
  have wn : Hid (∀ W, Calls Try.prog 55 #[.int .i64 n] W fun e w' => e = .returned (.bool true) ∧ W = w') := fun W => (within_any n W).mono (by rw [okP_t hn0 hn1]; exact fun _ _ h => h)
  have H0 := Lib.hid h0; clear h0
  rcases Int.lt_or_le (1073741824 - at_) n with hm | hm
  · have hmin : Hid (at_ + min n (1073741824 - at_) = at_ + (1073741824 - at_)) := by show _ = _; omega
    go_enter Try.func41, Try.ntmps41
    go_wp2_with fail
    refine (check_any _ _ _ _ hr (by omega)).mono ?_
    rintro e w1 ⟨rfl, hb1⟩
    go_wp2_with fail
    refine (wa.out _).mono ?_
    rintro e w2 ⟨rfl, rfl⟩
    go_wp2_with fail
    refine (wn.out _).mono ?_
    rintro e w2 ⟨rfl, rfl⟩
    go_wp2_with fail
    clear h0'
    have hen0 : at_ ≤ at_ + (1073741824 - at_) := by omega
    have hen1 : at_ + (1073741824 - at_) ≤ 1073741824 := by omega
    generalize at_ + (1073741824 - at_) = en at *
    go_loopw [10, 34] (fun uo ui wr => ∃ (k : Nat) (out : List Sp), ui = .int .i64 k ∧ k ≤ xs.length ∧ Own wr w.heap.size 72 uo out ∧ Rm at_ n (xs.take k) out ∧ Below w.heap.size w wr) (fun _ ui _ => xs.length - (intOf ui).toNat)
    case atStart => exact ⟨0, [], rfl, Nat.zero_le _, World.ownsRow_nil _ _ _ _, Rm.start at_ n, hb1⟩
    case round =>
      obtain ⟨k, out, rfl, hk, ho, hs, hb⟩ := hrel
      by_cases hlt : k < xs.length
      · have hv := val_take (val_of_chk H0.out) hlt
        obtain ⟨v1, v2, v3⟩ := hv
        obtain ⟨b, o, hA, hbl, c0, c1⟩ := hr.below hb k hlt
        subst hA
        have htk := Lib.hid (take_snoc xs k hlt)
        have hs' := hs.step ha0 ha1 hn0 v1 v2 v3
        rw [hmin.out, ← htk.out] at hs'
        have hl1 := addS_len out (xs[k].1, min xs[k].2 at_)
        have hl2 := val_len' hs.vo
        generalize xs[k] = s at *
        obtain ⟨p, q⟩ := s
        simp only at v1 v2 v3 hs' c0 c1 hl1
        have hge : -1 ≤ endOf (-1) (xs.take k) := endOf_ge hs.vd
        have hp0 : 0 ≤ p := by omega
        clear hs v1
        rcases Int.lt_or_le at_ q with hq | hq
        · rw [Int.min_eq_right (by omega)] at hs' hl1
          rcases Int.lt_or_le p en with hp | hp
          · rw [Int.max_eq_right (by omega)] at hs'
            go_wp2_with fail
            refine (add_any w.heap.size _ out p at_ _ (own_below ho (Below.alloc (Below.refl _ _) (Nat.le_refl _) _)) (by have := hb.size; simp; omega) (by omega)).mono ?_
            rintro e w3 ⟨v3', rfl, ho3, hg3⟩
            have hbb : Below w.heap.size wr w3 := hg3.below (Below.alloc (Below.refl _ _) hb.size _) (by have := hb.size; simp; omega) (fun k h => (ho.lt k h).1)
            have d0 : w3.cell? ⟨wr.heap.size, 0, none⟩ = some (.int .i64 p) := (hg3.grown.cell_far _ (by simp) (fun e => by have := (ho.lt _ e.symm).2; simp at this)).trans (cell2_new0 _ _ _ _)
            have d1 : w3.cell? ⟨wr.heap.size, 1, none⟩ = some (.int .i64 q) := (hg3.grown.cell_far _ (by simp) (fun e => by have := (ho.lt _ e.symm).2; simp at this)).trans (cell2_new1 _ _ _ _)
            have hz : wr.heap.size < w3.heap.size := by have := hg3.grown.size; simp at this; omega
            clear hg3
            go_wp2_with fail
            refine (add_any w.heap.size _ (addS out (p, at_)) (en - n) (q - n) _ ho3 (by have := hb.size; have := hbb.size; omega) (by omega)).mono ?_
            rintro e w4 ⟨v4, rfl, ho4, hg4⟩
            have hb4 : Below w.heap.size w w4 := hg4.below (hb.trans hbb) (by have := hb.size; have := hbb.size; omega) (fun k h => (ho3.lt k h).1)
            clear hg4
            go_wp2_with fail
            go_roundw
            case rel => exact ⟨k + 1, _, by go_num, by omega, ho4, hs', hb4⟩
            case measure => simp [intOf]; omega
          · rw [Int.max_eq_left (by omega)] at hs'
            go_wp2_with fail
            refine (add_any w.heap.size _ out p at_ _ (own_below ho (Below.alloc (Below.refl _ _) (Nat.le_refl _) _)) (by have := hb.size; simp; omega) (by omega)).mono ?_
            rintro e w3 ⟨v3', rfl, ho3, hg3⟩
            have hbb : Below w.heap.size wr w3 := hg3.below (Below.alloc (Below.refl _ _) hb.size _) (by have := hb.size; simp; omega) (fun k h => (ho.lt k h).1)
            have d0 : w3.cell? ⟨wr.heap.size, 0, none⟩ = some (.int .i64 p) := (hg3.grown.cell_far _ (by simp) (fun e => by have := (ho.lt _ e.symm).2; simp at this)).trans (cell2_new0 _ _ _ _)
            have d1 : w3.cell? ⟨wr.heap.size, 1, none⟩ = some (.int .i64 q) := (hg3.grown.cell_far _ (by simp) (fun e => by have := (ho.lt _ e.symm).2; simp at this)).trans (cell2_new1 _ _ _ _)
            have hz : wr.heap.size < w3.heap.size := by have := hg3.grown.size; simp at this; omega
            clear hg3
            go_wp2_with fail
            refine (add_any w.heap.size _ (addS out (p, at_)) (p - n) (q - n) _ ho3 (by have := hb.size; have := hbb.size; omega) (by omega)).mono ?_
            rintro e w4 ⟨v4, rfl, ho4, hg4⟩
            have hb4 : Below w.heap.size w w4 := hg4.below (hb.trans hbb) (by have := hb.size; have := hbb.size; omega) (fun k h => (ho3.lt k h).1)
            clear hg4
            go_wp2_with fail
            go_roundw
            case rel => exact ⟨k + 1, _, by go_num, by omega, ho4, hs', hb4⟩
            case measure => simp [intOf]; omega
        · rw [Int.min_eq_left (by omega)] at hs' hl1
          rcases Int.lt_or_le p en with hp | hp
          · rw [Int.max_eq_right (by omega)] at hs'
            go_wp2_with fail
            refine (add_any w.heap.size _ out p q _ (own_below ho (Below.alloc (Below.refl _ _) (Nat.le_refl _) _)) (by have := hb.size; simp; omega) (by omega)).mono ?_
            rintro e w3 ⟨v3', rfl, ho3, hg3⟩
            have hbb : Below w.heap.size wr w3 := hg3.below (Below.alloc (Below.refl _ _) hb.size _) (by have := hb.size; simp; omega) (fun k h => (ho.lt k h).1)
            have d0 : w3.cell? ⟨wr.heap.size, 0, none⟩ = some (.int .i64 p) := (hg3.grown.cell_far _ (by simp) (fun e => by have := (ho.lt _ e.symm).2; simp at this)).trans (cell2_new0 _ _ _ _)
            have d1 : w3.cell? ⟨wr.heap.size, 1, none⟩ = some (.int .i64 q) := (hg3.grown.cell_far _ (by simp) (fun e => by have := (ho.lt _ e.symm).2; simp at this)).trans (cell2_new1 _ _ _ _)
            have hz : wr.heap.size < w3.heap.size := by have := hg3.grown.size; simp at this; omega
            clear hg3
            go_wp2_with fail
            refine (add_any w.heap.size _ (addS out (p, q)) (en - n) (q - n) _ ho3 (by have := hb.size; have := hbb.size; omega) (by omega)).mono ?_
            rintro e w4 ⟨v4, rfl, ho4, hg4⟩
            have hb4 : Below w.heap.size w w4 := hg4.below (hb.trans hbb) (by have := hb.size; have := hbb.size; omega) (fun k h => (ho3.lt k h).1)
            clear hg4
            go_wp2_with fail
            go_roundw
            case rel => exact ⟨k + 1, _, by go_num, by omega, ho4, hs', hb4⟩
            case measure => simp [intOf]; omega
          · exact absurd hp (by omega)
      · obtain ⟨B, d, rfl, hd, hrd, hfr⟩ := ho.rdf
        have hfin := hs.ho
        rw [List.take_of_length_le (by omega)] at hfin
        have hvo := hs.vo
        have hlen2 := val_len' hvo
        clear hs
        by_cases h4 : out.length ≤ 4096
        · go_wp2_with (refine (result_ok _ _ _ _ hd h4).mono ?_; rintro e w3 ⟨rfl, rfl⟩)
          go_ret2
          exact ⟨⟨out, hvo, hfin, .inl ⟨h4, B, rfl, hrd, hfr⟩⟩, hb⟩
        · go_wp2_with (refine (result_no _ _ _ _ (by omega) (by omega)).mono ?_; rintro e w3 ⟨rfl, rfl⟩)
          go_ret2
          exact ⟨⟨out, hvo, hfin, .inr ⟨by omega, rfl⟩⟩, hb⟩
  · have hmin : Hid (at_ + min n (1073741824 - at_) = at_ + n) := by show _ = _; omega
    go_enter Try.func41, Try.ntmps41
    go_wp2_with fail
    refine (check_any _ _ _ _ hr (by omega)).mono ?_
    rintro e w1 ⟨rfl, hb1⟩
    go_wp2_with fail
    refine (wa.out _).mono ?_
    rintro e w2 ⟨rfl, rfl⟩
    go_wp2_with fail
    refine (wn.out _).mono ?_
    rintro e w2 ⟨rfl, rfl⟩
    go_wp2_with fail
    clear h0'
    have hen0 : at_ ≤ at_ + n := by omega
    have hen1 : at_ + n ≤ 1073741824 := by omega
    generalize at_ + n = en at *
    go_loopw [10, 34] (fun uo ui wr => ∃ (k : Nat) (out : List Sp), ui = .int .i64 k ∧ k ≤ xs.length ∧ Own wr w.heap.size 72 uo out ∧ Rm at_ n (xs.take k) out ∧ Below w.heap.size w wr) (fun _ ui _ => xs.length - (intOf ui).toNat)
    case atStart => exact ⟨0, [], rfl, Nat.zero_le _, World.ownsRow_nil _ _ _ _, Rm.start at_ n, hb1⟩
    case round =>
      obtain ⟨k, out, rfl, hk, ho, hs, hb⟩ := hrel
      by_cases hlt : k < xs.length
      · have hv := val_take (val_of_chk H0.out) hlt
        obtain ⟨v1, v2, v3⟩ := hv
        obtain ⟨b, o, hA, hbl, c0, c1⟩ := hr.below hb k hlt
        subst hA
        have htk := Lib.hid (take_snoc xs k hlt)
        have hs' := hs.step ha0 ha1 hn0 v1 v2 v3
        rw [hmin.out, ← htk.out] at hs'
        have hl1 := addS_len out (xs[k].1, min xs[k].2 at_)
        have hl2 := val_len' hs.vo
        generalize xs[k] = s at *
        obtain ⟨p, q⟩ := s
        simp only at v1 v2 v3 hs' c0 c1 hl1
        have hge : -1 ≤ endOf (-1) (xs.take k) := endOf_ge hs.vd
        have hp0 : 0 ≤ p := by omega
        clear hs v1
        rcases Int.lt_or_le at_ q with hq | hq
        · rw [Int.min_eq_right (by omega)] at hs' hl1
          rcases Int.lt_or_le p en with hp | hp
          · rw [Int.max_eq_right (by omega)] at hs'
            go_wp2_with fail
            refine (add_any w.heap.size _ out p at_ _ (own_below ho (Below.alloc (Below.refl _ _) (Nat.le_refl _) _)) (by have := hb.size; simp; omega) (by omega)).mono ?_
            rintro e w3 ⟨v3', rfl, ho3, hg3⟩
            have hbb : Below w.heap.size wr w3 := hg3.below (Below.alloc (Below.refl _ _) hb.size _) (by have := hb.size; simp; omega) (fun k h => (ho.lt k h).1)
            have d0 : w3.cell? ⟨wr.heap.size, 0, none⟩ = some (.int .i64 p) := (hg3.grown.cell_far _ (by simp) (fun e => by have := (ho.lt _ e.symm).2; simp at this)).trans (cell2_new0 _ _ _ _)
            have d1 : w3.cell? ⟨wr.heap.size, 1, none⟩ = some (.int .i64 q) := (hg3.grown.cell_far _ (by simp) (fun e => by have := (ho.lt _ e.symm).2; simp at this)).trans (cell2_new1 _ _ _ _)
            have hz : wr.heap.size < w3.heap.size := by have := hg3.grown.size; simp at this; omega
            clear hg3
            go_wp2_with fail
            refine (add_any w.heap.size _ (addS out (p, at_)) (en - n) (q - n) _ ho3 (by have := hb.size; have := hbb.size; omega) (by omega)).mono ?_
            rintro e w4 ⟨v4, rfl, ho4, hg4⟩
            have hb4 : Below w.heap.size w w4 := hg4.below (hb.trans hbb) (by have := hb.size; have := hbb.size; omega) (fun k h => (ho3.lt k h).1)
            clear hg4
            go_wp2_with fail
            go_roundw
            case rel => exact ⟨k + 1, _, by go_num, by omega, ho4, hs', hb4⟩
            case measure => simp [intOf]; omega
          · rw [Int.max_eq_left (by omega)] at hs'
            go_wp2_with fail
            refine (add_any w.heap.size _ out p at_ _ (own_below ho (Below.alloc (Below.refl _ _) (Nat.le_refl _) _)) (by have := hb.size; simp; omega) (by omega)).mono ?_
            rintro e w3 ⟨v3', rfl, ho3, hg3⟩
            have hbb : Below w.heap.size wr w3 := hg3.below (Below.alloc (Below.refl _ _) hb.size _) (by have := hb.size; simp; omega) (fun k h => (ho.lt k h).1)
            have d0 : w3.cell? ⟨wr.heap.size, 0, none⟩ = some (.int .i64 p) := (hg3.grown.cell_far _ (by simp) (fun e => by have := (ho.lt _ e.symm).2; simp at this)).trans (cell2_new0 _ _ _ _)
            have d1 : w3.cell? ⟨wr.heap.size, 1, none⟩ = some (.int .i64 q) := (hg3.grown.cell_far _ (by simp) (fun e => by have := (ho.lt _ e.symm).2; simp at this)).trans (cell2_new1 _ _ _ _)
            have hz : wr.heap.size < w3.heap.size := by have := hg3.grown.size; simp at this; omega
            clear hg3
            go_wp2_with fail
            refine (add_any w.heap.size _ (addS out (p, at_)) (p - n) (q - n) _ ho3 (by have := hb.size; have := hbb.size; omega) (by omega)).mono ?_
            rintro e w4 ⟨v4, rfl, ho4, hg4⟩
            have hb4 : Below w.heap.size w w4 := hg4.below (hb.trans hbb) (by have := hb.size; have := hbb.size; omega) (fun k h => (ho3.lt k h).1)
            clear hg4
            go_wp2_with fail
            go_roundw
            case rel => exact ⟨k + 1, _, by go_num, by omega, ho4, hs', hb4⟩
            case measure => simp [intOf]; omega
        · rw [Int.min_eq_left (by omega)] at hs' hl1
          rcases Int.lt_or_le p en with hp | hp
          · rw [Int.max_eq_right (by omega)] at hs'
            go_wp2_with fail
            refine (add_any w.heap.size _ out p q _ (own_below ho (Below.alloc (Below.refl _ _) (Nat.le_refl _) _)) (by have := hb.size; simp; omega) (by omega)).mono ?_
            rintro e w3 ⟨v3', rfl, ho3, hg3⟩
            have hbb : Below w.heap.size wr w3 := hg3.below (Below.alloc (Below.refl _ _) hb.size _) (by have := hb.size; simp; omega) (fun k h => (ho.lt k h).1)
            have d0 : w3.cell? ⟨wr.heap.size, 0, none⟩ = some (.int .i64 p) := (hg3.grown.cell_far _ (by simp) (fun e => by have := (ho.lt _ e.symm).2; simp at this)).trans (cell2_new0 _ _ _ _)
            have d1 : w3.cell? ⟨wr.heap.size, 1, none⟩ = some (.int .i64 q) := (hg3.grown.cell_far _ (by simp) (fun e => by have := (ho.lt _ e.symm).2; simp at this)).trans (cell2_new1 _ _ _ _)
            have hz : wr.heap.size < w3.heap.size := by have := hg3.grown.size; simp at this; omega
            clear hg3
            go_wp2_with fail
            refine (add_any w.heap.size _ (addS out (p, q)) (en - n) (q - n) _ ho3 (by have := hb.size; have := hbb.size; omega) (by omega)).mono ?_
            rintro e w4 ⟨v4, rfl, ho4, hg4⟩
            have hb4 : Below w.heap.size w w4 := hg4.below (hb.trans hbb) (by have := hb.size; have := hbb.size; omega) (fun k h => (ho3.lt k h).1)
            clear hg4
            go_wp2_with fail
            go_roundw
            case rel => exact ⟨k + 1, _, by go_num, by omega, ho4, hs', hb4⟩
            case measure => simp [intOf]; omega
          · exact absurd hp (by omega)
      · obtain ⟨B, d, rfl, hd, hrd, hfr⟩ := ho.rdf
        have hfin := hs.ho
        rw [List.take_of_length_le (by omega)] at hfin
        have hvo := hs.vo
        have hlen2 := val_len' hvo
        clear hs
        by_cases h4 : out.length ≤ 4096
        · go_wp2_with (refine (result_ok _ _ _ _ hd h4).mono ?_; rintro e w3 ⟨rfl, rfl⟩)
          go_ret2
          exact ⟨⟨out, hvo, hfin, .inl ⟨h4, B, rfl, hrd, hfr⟩⟩, hb⟩
        · go_wp2_with (refine (result_no _ _ _ _ (by omega) (by omega)).mono ?_; rintro e w3 ⟨rfl, rfl⟩)
          go_ret2
          exact ⟨⟨out, hvo, hfin, .inr ⟨by omega, rfl⟩⟩, hb⟩
end Go.Proofs.Ytdejdnkkbpmmlaa.S

namespace Go.Proofs.Ytdejdnkkbpmmlaa.S
open Go.RowKit
set_option maxRecDepth 100000 in
set_option maxHeartbeats 1000000 in
theorem ins_nil (A : Option Addr) (c : Nat) (at_ n : Int) (w : World) (hr : Rd w w.heap.size A []) (ha0 : 0 ≤ at_) (ha1 : at_ ≤ 1073741824) (hn0 : 0 ≤ n) (hn1 : n ≤ 1073741824) :
    Calls Try.prog 38 #[.slice A 0 c, .int .i64 at_, .int .i64 n] w fun e w' => SetRes w.heap.size (insM [] at_ n) e w' ∧ Below w.heap.size w w' := by
  have wa : Hid (∀ W, Calls Try.prog 55 #[.int .i64 at_] W fun e w' => e = .returned (.bool true) ∧ W = w') := fun W => (within_any at_ W).mono (by rw [okP_t ha0 ha1]; exact fun _ _ h => h)
  have wn : Hid (∀ W, Calls Try.prog 55 #[.int .i64 n] W fun e w' => e = .returned (.bool true) ∧ W = w') := fun W => (within_any n W).mono (by rw [okP_t hn0 hn1]; exact fun _ _ h => h)
  have ck : Hid (∀ W, Rd W W.heap.size A [] → Calls Try.prog 54 #[.slice A 0 c] W fun e w' => e = .returned (.int .i64 0) ∧ Below W.heap.size W w') := fun W h => check_any A c [] W h (by simp)
  have hfin := (In.start at_ n).ho
  go_enter Try.func38, Try.ntmps38
  go_wp2_with fail
  refine (ck.out _ hr).mono ?_
  rintro e w1 ⟨rfl, hb1⟩
  go_wp2_with fail
  refine (wa.out _).mono ?_
  rintro e w2 ⟨rfl, rfl⟩
  go_wp2_with fail
  refine (wn.out _).mono ?_
  rintro e w2 ⟨rfl, rfl⟩
  go_wp2_with fail
  go_loopw [10, 52] (fun uo ui wr => uo = .slice none 0 0 ∧ ui = .int .i64 0 ∧ Below w.heap.size w wr) (fun _ _ _ => 0)
  case atStart => exact ⟨rfl, rfl, hb1⟩
  case round =>
    obtain ⟨rfl, rfl, hb⟩ := hrel
    go_wp2_with (refine (result_ok none 0 0 _ (Nat.le_refl _) (by omega)).mono ?_; rintro e w3 ⟨rfl, rfl⟩)
    go_ret2
    exact ⟨⟨[], trivial, hfin, .inl ⟨by simp, none, rfl, Rd.nil, fun _ h => by cases h⟩⟩, hb⟩

set_option maxRecDepth 100000 in
set_option maxHeartbeats 2000000 in
theorem ins_low (b o : Nat) (c : Nat) (xs : List Sp) (at_ n ee : Int) (w : World) (hr : Rd w w.heap.size (some ⟨b, o, none⟩) xs) (h0 : chk xs = 0) (ha0 : 0 ≤ at_) (ha1 : at_ ≤ 1073741824) (hn0 : 0 ≤ n) (hn1 : n ≤ 1073741824)
    (hpos : 0 < xs.length) (hee : endOf (-1) xs = ee) (hbl : b < w.heap.size) (c1 : w.cell? ⟨b, o + (xs.length - 1) * 2 + 1, none⟩ = some (.int .i64 ee)) (hz : ee ≤ at_) :
    Calls Try.prog 38 #[.slice (some ⟨b, o, none⟩) xs.length c, .int .i64 at_, .int .i64 n] w fun e w' => SetRes w.heap.size (insM xs at_ n) e w' ∧ Below w.heap.size w w' := by
  have hlen := chk_len h0
  have h0' : (chk xs != 0) = false := by rw [h0]; rfl
  have wa : Hid (∀ W, Calls Try.prog 55 #[.int .i64 at_] W fun e w' => e = .returned (.bool true) ∧ W = w') := fun W => (within_any at_ W).mono (by rw [okP_t ha0 ha1]; exact fun _ _ h => h)
  have wn : Hid (∀ W, Calls Try.prog 55 #[.int .i64 n] W fun e w' => e = .returned (.bool true) ∧ W = w') := fun W => (within_any n W).mono (by rw [okP_t hn0 hn1]; exact fun _ _ h => h)
  have HE : Hid (∀ k (hk : k < xs.length), xs[k].2 ≤ ee) := fun k hk => by rw [← hee]; exact val_end (val_of_chk h0) hk
  have H0 := Lib.hid h0; clear h0 hee
  have hx0 : (0 : Int) ≤ (xs.length : Int) - 1 := by omega
  have hx1 : (xs.length : Int) - 1 < (xs.length : Int) := by omega
  have hd1 : decide ((1 : Int) ≤ (xs.length : Int)) = true := by simp; omega
  have hd2 : decide (1 ≤ xs.length) = true := by simp; omega
  have hd3 : decide (at_ < ee) = false := by simp; omega
  go_enter Try.func38, Try.ntmps38
  go_wp2_with fail
  refine (check_any _ _ _ _ hr (by omega)).mono ?_
  rintro e w1 ⟨rfl, hb1⟩
  have c1' := (hb1.cell (p := ⟨b, o + (xs.length - 1) * 2 + 1, none⟩) hbl).trans c1
  clear c1
  go_wp2_with fail
  refine (wa.out _).mono ?_
  rintro e w2 ⟨rfl, rfl⟩
  go_wp2_with fail
  refine (wn.out _).mono ?_
  rintro e w2 ⟨rfl, rfl⟩
  go_wp2_with fail
  clear h0' hd1 hd2 c1' hd3
  go_loopw [10, 52] (fun uo ui wr => ∃ (k : Nat) (out : List Sp), ui = .int .i64 k ∧ k ≤ xs.length ∧ Own wr w.heap.size 72 uo out ∧ In at_ n (xs.take k) out ∧ Below w.heap.size w wr) (fun _ ui _ => xs.length - (intOf ui).toNat)
  case atStart => exact ⟨0, [], rfl, Nat.zero_le _, World.ownsRow_nil _ _ _ _, In.start at_ n, hb1⟩
  case round =>
    obtain ⟨k, out, rfl, hk, ho, hs, hb⟩ := hrel
    by_cases hlt : k < xs.length
    · have hv := val_take (val_of_chk H0.out) hlt
      obtain ⟨v1, v2, v3⟩ := hv
      have hvE := HE.out k hlt
      obtain ⟨b', o', hA, hbl', c0, c1⟩ := hr.below hb k hlt
      obtain ⟨rfl, rfl⟩ : b = b' ∧ o = o' := by injection hA with hA; injection hA with h1 h2; exact ⟨h1, h2⟩
      clear hA
      have htk := Lib.hid (take_snoc xs k hlt)
      have hs' := hs.step ha0 hn0 v1 v2 v3 (fun h => by omega)
      rw [← htk.out] at hs'
      have hl1 := addS_len out (xs[k].1, min xs[k].2 at_)
      have hl2 := val_len' hs.vo
      generalize xs[k] = s at *
      obtain ⟨p, q⟩ := s
      simp only at v1 v2 v3 hs' c0 c1 hl1 hvE
      have hge : -1 ≤ endOf (-1) (xs.take k) := endOf_ge hs.vd
      have hp0 : 0 ≤ p := by omega
      clear hs v1
      rcases Int.lt_or_le at_ q with hq | hq
      · exact absurd hz (by omega)
      · rw [if_neg (by omega), Int.min_eq_left (by omega)] at hs'
        rw [Int.min_eq_left (by omega)] at hl1
        go_wp2_with fail
        refine (add_any w.heap.size _ out p q _ (own_below ho (Below.alloc (Below.refl _ _) (Nat.le_refl _) _)) (by have := hb.size; simp; omega) (by omega)).mono ?_
        rintro e w3 ⟨v3', rfl, ho3, hg3⟩
        have hbb : Below w.heap.size wr w3 := hg3.below (Below.alloc (Below.refl _ _) hb.size _) (by have := hb.size; simp; omega) (fun k h => (ho.lt k h).1)
        have d0 : w3.cell? ⟨wr.heap.size, 0, none⟩ = some (.int .i64 p) := (hg3.grown.cell_far _ (by simp) (fun e => by have := (ho.lt _ e.symm).2; simp at this)).trans (cell2_new0 _ _ _ _)
        have d1 : w3.cell? ⟨wr.heap.size, 1, none⟩ = some (.int .i64 q) := (hg3.grown.cell_far _ (by simp) (fun e => by have := (ho.lt _ e.symm).2; simp at this)).trans (cell2_new1 _ _ _ _)
        have hz3 : wr.heap.size < w3.heap.size := by have := hg3.grown.size; simp at this; omega
        clear hg3
        have hb3 : Below w.heap.size w w3 := hb.trans hbb
        go_wp2_with fail
        go_roundw
        case rel => exact ⟨k + 1, _, by go_num, by omega, ho3, hs', hb3⟩
        case measure => simp [intOf]; omega
    · obtain ⟨B, d, rfl, hd, hrd, hfr⟩ := ho.rdf
      have hfin := hs.ho
      rw [List.take_of_length_le (by omega)] at hfin
      have hvo := hs.vo
      have hlen2 := val_len' hvo
      clear hs
      by_cases h4 : out.length ≤ 4096
      · go_wp2_with (refine (result_ok _ _ _ _ hd h4).mono ?_; rintro e w3 ⟨rfl, rfl⟩)
        go_ret2
        exact ⟨⟨out, hvo, hfin, .inl ⟨h4, B, rfl, hrd, hfr⟩⟩, hb⟩
      · go_wp2_with (refine (result_no _ _ _ _ (by omega) (by omega)).mono ?_; rintro e w3 ⟨rfl, rfl⟩)
        go_ret2
        exact ⟨⟨out, hvo, hfin, .inr ⟨by omega, rfl⟩⟩, hb⟩
set_option maxRecDepth 100000 in
set_option maxHeartbeats 2000000 in
theorem ins_high (b o : Nat) (c : Nat) (xs : List Sp) (at_ n ee : Int) (w : World) (hr : Rd w w.heap.size (some ⟨b, o, none⟩) xs) (h0 : chk xs = 0) (ha0 : 0 ≤ at_) (ha1 : at_ ≤ 1073741824) (hn0 : 0 ≤ n) (hn1 : n ≤ 1073741824)
    (hpos : 0 < xs.length) (hee : endOf (-1) xs = ee) (hbl : b < w.heap.size) (c1 : w.cell? ⟨b, o + (xs.length - 1) * 2 + 1, none⟩ = some (.int .i64 ee)) (hz : at_ < ee) (hroom : ee + n ≤ 1073741824) :
    Calls Try.prog 38 #[.slice (some ⟨b, o, none⟩) xs.length c, .int .i64 at_, .int .i64 n] w fun e w' => SetRes w.heap.size (insM xs at_ n) e w' ∧ Below w.heap.size w w' := by
  have hlen := chk_len h0
  have h0' : (chk xs != 0) = false := by rw [h0]; rfl
  have wa : Hid (∀ W, Calls Try.prog 55 #[.int .i64 at_] W fun e w' => e = .returned (.bool true) ∧ W = w') := fun W => (within_any at_ W).mono (by rw [okP_t ha0 ha1]; exact fun _ _ h => h)
  have wn : Hid (∀ W, Calls Try.prog 55 #[.int .i64 n] W fun e w' => e = .returned (.bool true) ∧ W = w') := fun W => (within_any n W).mono (by rw [okP_t hn0 hn1]; exact fun _ _ h => h)
  have HE : Hid (∀ k (hk : k < xs.length), xs[k].2 ≤ ee) := fun k hk => by rw [← hee]; exact val_end (val_of_chk h0) hk
  have H0 := Lib.hid h0; clear h0 hee
  have hx0 : (0 : Int) ≤ (xs.length : Int) - 1 := by omega
  have hx1 : (xs.length : Int) - 1 < (xs.length : Int) := by omega
  have hd1 : decide ((1 : Int) ≤ (xs.length : Int)) = true := by simp; omega
  have hd2 : decide (1 ≤ xs.length) = true := by simp; omega
  have hd3 : decide (at_ < ee) = true := by simp; omega
  have hd4 : decide (1073741824 - n < ee) = false := by simp; omega
  go_enter Try.func38, Try.ntmps38
  go_wp2_with fail
  refine (check_any _ _ _ _ hr (by omega)).mono ?_
  rintro e w1 ⟨rfl, hb1⟩
  have c1' := (hb1.cell (p := ⟨b, o + (xs.length - 1) * 2 + 1, none⟩) hbl).trans c1
  clear c1
  go_wp2_with fail
  refine (wa.out _).mono ?_
  rintro e w2 ⟨rfl, rfl⟩
  go_wp2_with fail
  refine (wn.out _).mono ?_
  rintro e w2 ⟨rfl, rfl⟩
  go_wp2_with fail
  clear h0' hd1 hd2 c1' hd3 hd4
  go_loopw [10, 52] (fun uo ui wr => ∃ (k : Nat) (out : List Sp), ui = .int .i64 k ∧ k ≤ xs.length ∧ Own wr w.heap.size 72 uo out ∧ In at_ n (xs.take k) out ∧ Below w.heap.size w wr) (fun _ ui _ => xs.length - (intOf ui).toNat)
  case atStart => exact ⟨0, [], rfl, Nat.zero_le _, World.ownsRow_nil _ _ _ _, In.start at_ n, hb1⟩
  case round =>
    obtain ⟨k, out, rfl, hk, ho, hs, hb⟩ := hrel
    by_cases hlt : k < xs.length
    · have hv := val_take (val_of_chk H0.out) hlt
      obtain ⟨v1, v2, v3⟩ := hv
      have hvE := HE.out k hlt
      obtain ⟨b', o', hA, hbl', c0, c1⟩ := hr.below hb k hlt
      obtain ⟨rfl, rfl⟩ : b = b' ∧ o = o' := by injection hA with hA; injection hA with h1 h2; exact ⟨h1, h2⟩
      clear hA
      have htk := Lib.hid (take_snoc xs k hlt)
      have hs' := hs.step ha0 hn0 v1 v2 v3 (fun h => by omega)
      rw [← htk.out] at hs'
      have hl1 := addS_len out (xs[k].1, min xs[k].2 at_)
      have hl2 := val_len' hs.vo
      generalize xs[k] = s at *
      obtain ⟨p, q⟩ := s
      simp only at v1 v2 v3 hs' c0 c1 hl1 hvE
      have hge : -1 ≤ endOf (-1) (xs.take k) := endOf_ge hs.vd
      have hp0 : 0 ≤ p := by omega
      clear hs v1
      rcases Int.lt_or_le at_ q with hq | hq
      · rw [if_pos hq, Int.min_eq_right (by omega)] at hs'
        rw [Int.min_eq_right (by omega)] at hl1
        have hroom2 : q + n ≤ 1073741824 := by omega
        rcases Int.lt_or_le p at_ with hp | hp
        · rw [Int.max_eq_right (by omega)] at hs'
          go_wp2_with fail
          refine (add_any w.heap.size _ out p at_ _ (own_below ho (Below.alloc (Below.refl _ _) (Nat.le_refl _) _)) (by have := hb.size; simp; omega) (by omega)).mono ?_
          rintro e w3 ⟨v3', rfl, ho3, hg3⟩
          have hbb : Below w.heap.size wr w3 := hg3.below (Below.alloc (Below.refl _ _) hb.size _) (by have := hb.size; simp; omega) (fun k h => (ho.lt k h).1)
          have d0 : w3.cell? ⟨wr.heap.size, 0, none⟩ = some (.int .i64 p) := (hg3.grown.cell_far _ (by simp) (fun e => by have := (ho.lt _ e.symm).2; simp at this)).trans (cell2_new0 _ _ _ _)
          have d1 : w3.cell? ⟨wr.heap.size, 1, none⟩ = some (.int .i64 q) := (hg3.grown.cell_far _ (by simp) (fun e => by have := (ho.lt _ e.symm).2; simp at this)).trans (cell2_new1 _ _ _ _)
          have hz3 : wr.heap.size < w3.heap.size := by have := hg3.grown.size; simp at this; omega
          clear hg3
          go_wp2_with fail
          refine (add_any w.heap.size _ (addS out (p, at_)) (at_ + n) (q + n) _ ho3 (by have := hb.size; have := hbb.size; omega) (by omega)).mono ?_
          rintro e w4 ⟨v4, rfl, ho4, hg4⟩
          have hb4 : Below w.heap.size w w4 := hg4.below (hb.trans hbb) (by have := hb.size; have := hbb.size; omega) (fun k h => (ho3.lt k h).1)
          clear hg4
          go_wp2_with fail
          go_roundw
          case rel => exact ⟨k + 1, _, by go_num, by omega, ho4, hs', hb4⟩
          case measure => simp [intOf]; omega
        · rw [Int.max_eq_left (by omega)] at hs'
          go_wp2_with fail
          refine (add_any w.heap.size _ out p at_ _ (own_below ho (Below.alloc (Below.refl _ _) (Nat.le_refl _) _)) (by have := hb.size; simp; omega) (by omega)).mono ?_
          rintro e w3 ⟨v3', rfl, ho3, hg3⟩
          have hbb : Below w.heap.size wr w3 := hg3.below (Below.alloc (Below.refl _ _) hb.size _) (by have := hb.size; simp; omega) (fun k h => (ho.lt k h).1)
          have d0 : w3.cell? ⟨wr.heap.size, 0, none⟩ = some (.int .i64 p) := (hg3.grown.cell_far _ (by simp) (fun e => by have := (ho.lt _ e.symm).2; simp at this)).trans (cell2_new0 _ _ _ _)
          have d1 : w3.cell? ⟨wr.heap.size, 1, none⟩ = some (.int .i64 q) := (hg3.grown.cell_far _ (by simp) (fun e => by have := (ho.lt _ e.symm).2; simp at this)).trans (cell2_new1 _ _ _ _)
          have hz3 : wr.heap.size < w3.heap.size := by have := hg3.grown.size; simp at this; omega
          clear hg3
          go_wp2_with fail
          refine (add_any w.heap.size _ (addS out (p, at_)) (p + n) (q + n) _ ho3 (by have := hb.size; have := hbb.size; omega) (by omega)).mono ?_
          rintro e w4 ⟨v4, rfl, ho4, hg4⟩
          have hb4 : Below w.heap.size w w4 := hg4.below (hb.trans hbb) (by have := hb.size; have := hbb.size; omega) (fun k h => (ho3.lt k h).1)
          clear hg4
          go_wp2_with fail
          go_roundw
          case rel => exact ⟨k + 1, _, by go_num, by omega, ho4, hs', hb4⟩
          case measure => simp [intOf]; omega
      · rw [if_neg (by omega), Int.min_eq_left (by omega)] at hs'
        rw [Int.min_eq_left (by omega)] at hl1
        go_wp2_with fail
        refine (add_any w.heap.size _ out p q _ (own_below ho (Below.alloc (Below.refl _ _) (Nat.le_refl _) _)) (by have := hb.size; simp; omega) (by omega)).mono ?_
        rintro e w3 ⟨v3', rfl, ho3, hg3⟩
        have hbb : Below w.heap.size wr w3 := hg3.below (Below.alloc (Below.refl _ _) hb.size _) (by have := hb.size; simp; omega) (fun k h => (ho.lt k h).1)
        have d0 : w3.cell? ⟨wr.heap.size, 0, none⟩ = some (.int .i64 p) := (hg3.grown.cell_far _ (by simp) (fun e => by have := (ho.lt _ e.symm).2; simp at this)).trans (cell2_new0 _ _ _ _)
        have d1 : w3.cell? ⟨wr.heap.size, 1, none⟩ = some (.int .i64 q) := (hg3.grown.cell_far _ (by simp) (fun e => by have := (ho.lt _ e.symm).2; simp at this)).trans (cell2_new1 _ _ _ _)
        have hz3 : wr.heap.size < w3.heap.size := by have := hg3.grown.size; simp at this; omega
        clear hg3
        have hb3 : Below w.heap.size w w3 := hb.trans hbb
        go_wp2_with fail
        go_roundw
        case rel => exact ⟨k + 1, _, by go_num, by omega, ho3, hs', hb3⟩
        case measure => simp [intOf]; omega
    · obtain ⟨B, d, rfl, hd, hrd, hfr⟩ := ho.rdf
      have hfin := hs.ho
      rw [List.take_of_length_le (by omega)] at hfin
      have hvo := hs.vo
      have hlen2 := val_len' hvo
      clear hs
      by_cases h4 : out.length ≤ 4096
      · go_wp2_with (refine (result_ok _ _ _ _ hd h4).mono ?_; rintro e w3 ⟨rfl, rfl⟩)
        go_ret2
        exact ⟨⟨out, hvo, hfin, .inl ⟨h4, B, rfl, hrd, hfr⟩⟩, hb⟩
      · go_wp2_with (refine (result_no _ _ _ _ (by omega) (by omega)).mono ?_; rintro e w3 ⟨rfl, rfl⟩)
        go_ret2
        exact ⟨⟨out, hvo, hfin, .inr ⟨by omega, rfl⟩⟩, hb⟩
theorem ins_ok (A : Option Addr) (c : Nat) (xs : List Sp) (at_ n : Int) (w : World) (hr : Rd w w.heap.size A xs) (h0 : chk xs = 0) (ha0 : 0 ≤ at_) (ha1 : at_ ≤ 1073741824) (hn0 : 0 ≤ n) (hn1 : n ≤ 1073741824)
    (hroom : endOf (-1) xs ≤ at_ ∨ endOf (-1) xs + n ≤ 1073741824) :
    Calls Try.prog 38 #[.slice A xs.length c, .int .i64 at_, .int .i64 n] w fun e w' => SetRes w.heap.size (insM xs at_ n) e w' ∧ Below w.heap.size w w' := by
  rcases room_cases xs at_ n (val_of_chk h0) hroom with hz | ⟨hpos, hlast, hz⟩
  · obtain rfl := List.eq_nil_of_length_eq_zero hz
    exact ins_nil A c at_ n w hr ha0 ha1 hn0 hn1
  · obtain ⟨b, o, rfl, hbl, c0, c1⟩ := hr (xs.length - 1) (by omega)
    rw [hlast] at c1
    by_cases h : endOf (-1) xs ≤ at_
    · exact ins_low b o c xs at_ n _ w hr h0 ha0 ha1 hn0 hn1 hpos rfl hbl c1 h
    · exact ins_high b o c xs at_ n _ w hr h0 ha0 ha1 hn0 hn1 hpos rfl hbl c1 (by omega) (by omega)
end Go.Proofs.Ytdejdnkkbpmmlaa.S
