/- The walks of what reads a list of bits: Len, Get, Rank, Count. -/
import Derived.Test.YtbdjpacmbaoaeaaDoorShelf
namespace Go.Proofs.YtbdjpacmbaoaeaaDoor
open Go.RowKit

theorem len_nil (w : World) : Calls Tryd.prog 31 #[.pointer none] w fun e w' => e = .returned (.int .i64 0) ∧ w = w' := by
  go_enter Tryd.func31, Tryd.ntmps31
  go_wp2
  go_ret
  exact ⟨rfl, rfl⟩
theorem len_any {w : World} {b n : Nat} {ws : List Nat} (h : Raw w b n ws) : Calls Tryd.prog 31 #[.pointer (some ⟨b, 0, none⟩)] w fun e w' => e = .returned (.int .i64 n) ∧ w = w' := by
  have hc := h.size
  clear h
  go_enter Tryd.func31, Tryd.ntmps31
  go_wp2
  go_ret
  exact ⟨rfl, rfl⟩
theorem get_nil (x : Int) (w : World) : Calls Tryd.prog 18 #[.pointer none, .int .i64 x] w fun e w' => e = .returned (.tuple #[.bool false, .int .i64 2]) ∧ w = w' := by
  go_enter Tryd.func18, Tryd.ntmps18
  go_wp2_with (go_at_call 34; refine (part_nil _ _ _).mono ?_; rintro e w' ⟨rfl, rfl⟩)
  go_ret2
  exact ⟨rfl, rfl⟩
theorem get_out {w : World} {b n : Nat} {ws : List Nat} (h : Raw w b n ws) (x : Int) (h1 : x ≤ 9223372036854775807) (ho : x < 0 ∨ (n : Int) ≤ x) : Calls Tryd.prog 18 #[.pointer (some ⟨b, 0, none⟩), .int .i64 x] w fun e w' => e = .returned (.tuple #[.bool false, .int .i64 4]) ∧ w = w' := by
  have hp := part_any h x 1 h1
  rw [show partErr n x 1 = 4 by unfold partErr; rw [if_pos (by omega)]] at hp
  clear h
  go_enter Tryd.func18, Tryd.ntmps18
  go_wp2_with (go_at_call 34; refine hp.mono ?_; rintro e w' ⟨rfl, rfl⟩)
  go_ret2
  exact ⟨rfl, rfl⟩
theorem int_div_pow (W r : Nat) : (W : Int) / 2 ^ r = ((W / 2 ^ r : Nat) : Int) := by rw [int_two_pow]; simp
theorem test_bit (W r : Nat) (h : W < 18446744073709551616) : (bits BinOp.and IntKind.u64 ((W : Int) / 2 ^ r) 1 == 1) = W.testBit r := by
  have hle : W / 2 ^ r ≤ W := Nat.div_le_self _ _
  have a1 : bits BinOp.and IntKind.u64 ((W / 2 ^ r : Nat) : Int) 1 = ((W / 2 ^ r &&& 1 : Nat) : Int) := bits_and_u64_nat (W / 2 ^ r) 1 (by omega) (by decide)
  rw [int_div_pow, a1, Nat.and_one_is_mod, Nat.testBit_eq_decide_div_mod_eq]
  have : W / 2 ^ r % 2 = 0 ∨ W / 2 ^ r % 2 = 1 := by omega
  rcases this with h | h <;> rw [h] <;> rfl
theorem get_in {w : World} {b : Nat} {l : List Bool} (h : Fl w b l) (i : Nat) (hi : i < l.length) : Calls Tryd.prog 18 #[.pointer (some ⟨b, 0, none⟩), .int .i64 i] w fun e w' => e = .returned (.tuple #[.bool l[i], .int .i64 0]) ∧ w = w' := by
  have hp := part_any h i 1 (by have := h.le; omega)
  rw [show partErr l.length i 1 = 0 by unfold partErr; rw [if_neg (by omega)]] at hp
  have hq : i / 64 < 64 := by have := h.le; omega
  have hc := h.cell (i / 64) hq
  have hl := h.le
  obtain ⟨q, e1⟩ : ∃ q, q = i / 64 := ⟨_, rfl⟩
  obtain ⟨r, e2⟩ : ∃ r, r = i % 64 := ⟨_, rfl⟩
  have a1 : (i : Int) / 64 = (q : Int) := by omega
  have a2 : (i : Int) % 64 = (r : Int) := by omega
  rw [← e1] at hc hq
  rw [words_get l q hq] at hc
  have hr : r < 64 := by omega
  have a3 : (bits BinOp.and IntKind.u64 ((word l q : Int) / 2 ^ r) 1 == 1) = l[i] := by
    rw [test_bit _ _ (word_lt l q), word_testBit l q r hr, show 64 * q + r = i by omega]
    simp [List.getD_eq_getElem?_getD, hi]
  generalize l[i] = v at *
  clear h e1 e2
  go_enter Tryd.func18, Tryd.ntmps18
  go_wp2_with (go_at_call 34; refine hp.mono ?_; rintro e w' ⟨rfl, rfl⟩)
  go_ret2
  exact ⟨by first | rfl | (rw [a3]; rfl), rfl⟩

theorem rank_nil (x : Int) (w : World) : Calls Tryd.prog 12 #[.pointer none, .int .i64 x] w fun e w' => e = .returned (.tuple #[.int .i64 0, .int .i64 2]) ∧ w = w' := by
  go_enter Tryd.func12, Tryd.ntmps12
  go_wp2_with (go_at_call 34; refine (part_nil _ _ _).mono ?_; rintro e w' ⟨rfl, rfl⟩)
  go_ret2
  exact ⟨rfl, rfl⟩
theorem rank_out {w : World} {b n : Nat} {ws : List Nat} (h : Raw w b n ws) (x : Int) (h1 : x ≤ 9223372036854775807) (ho : x < 0 ∨ (n : Int) < x) : Calls Tryd.prog 12 #[.pointer (some ⟨b, 0, none⟩), .int .i64 x] w fun e w' => e = .returned (.tuple #[.int .i64 0, .int .i64 4]) ∧ w = w' := by
  have hp := part_any h x 0 h1
  rw [show partErr n x 0 = 4 by unfold partErr; rw [if_pos (by omega)]] at hp
  clear h
  go_enter Tryd.func12, Tryd.ntmps12
  go_wp2_with (go_at_call 34; refine hp.mono ?_; rintro e w' ⟨rfl, rfl⟩)
  go_ret2
  exact ⟨rfl, rfl⟩
theorem cnt_word (l : List Bool) (q : Nat) : ones 64 (word l q) = cnt ((l.drop (64 * q)).take 64) := by
  unfold word
  exact ones_ofBits 64 _ (by simp; omega)
theorem ofBits_mod : ∀ (l : List Bool) (r : Nat), ofBits l % 2 ^ r = ofBits (l.take r)
  | [], r => by simp [ofBits]
  | b :: l, 0 => by simp [ofBits, Nat.mod_one]
  | b :: l, r + 1 => by
    have ih := ofBits_mod l r
    rw [List.take_succ_cons, ofBits, ofBits, ← ih, Nat.pow_succ, Nat.mul_comm (2 ^ r) 2]
    have h1 := Nat.mod_mul (a := 2) (b := 2 ^ r) (x := b.toNat + 2 * ofBits l)
    have e1 : (b.toNat + 2 * ofBits l) / 2 = ofBits l := by cases b <;> simp; omega
    have e2 : (b.toNat + 2 * ofBits l) % 2 = b.toNat := by cases b <;> simp
    rw [h1, e1, e2]
theorem cnt_low (l : List Bool) (q r : Nat) (hr : r ≤ 64) : ones 64 (word l q % 2 ^ r) = cnt ((l.drop (64 * q)).take r) := by
  unfold word
  rw [ofBits_mod, List.take_take, Nat.min_eq_left hr]
  exact ones_ofBits 64 _ (by simp; omega)
theorem and_low (W r : Nat) (hW : W < 18446744073709551616) (hr : r < 64) : bits BinOp.and IntKind.u64 (W : Int) ((2 ^ r - 1 : Nat) : Int) = ((W % 2 ^ r : Nat) : Int) := by
  have := two_pow_lt r hr
  rw [bits_and_u64_nat W (2 ^ r - 1) hW (by omega), Nat.and_two_pow_sub_one_eq_mod]
set_option maxHeartbeats 1000000 in
theorem rank_in {w : World} {b : Nat} {l : List Bool} (h : Fl w b l) (i : Nat) (hi : i ≤ l.length) : Calls Tryd.prog 12 #[.pointer (some ⟨b, 0, none⟩), .int .i64 i] w fun e w' => e = .returned (.tuple #[.int .i64 (cnt (l.take i) : Nat), .int .i64 0]) ∧ ∃ k, w' = w.drewN k := by
  have hp := part_any h i 0 (by have := h.le; omega)
  rw [show partErr l.length i 0 = 0 by unfold partErr; rw [if_neg (by omega)]] at hp
  have hl := h.le
  have H := Lib.hid h
  obtain ⟨q, e1⟩ : ∃ q, q = i / 64 := ⟨_, rfl⟩
  obtain ⟨r, e2⟩ : ∃ r, r = i % 64 := ⟨_, rfl⟩
  have a1 : (i : Int) / 64 = (q : Int) := by omega
  have a2 : (i : Int) % 64 = (r : Int) := by omega
  have hr : r < 64 := by omega
  have hq : q ≤ 64 := by omega
  have E : Hid (i = 64 * q + r) := Lib.hid (by omega)
  have hs := slice_h b q hq
  clear h e1 e2
  go_enter Tryd.func12, Tryd.ntmps12
  go_wp2_with (go_at_call 34; refine hp.mono ?_; rintro e w' ⟨rfl, rfl⟩)
  go_loop [7, 24] (fun x k => ∃ (j n : Nat), x = .int .i64 n ∧ k = .int .i64 j ∧ j ≤ q ∧ n ≤ 64 * j ∧ Hid (n = cnt (l.take (64 * j)))) (fun _ k => q - (intOf k).toNat)
  case atStart => exact ⟨0, 0, rfl, rfl, Nat.zero_le _, Nat.zero_le _, Lib.hid (by simp [cnt])⟩
  case round =>
    obtain ⟨j, n, rfl, rfl, hj, hn, HN⟩ := hrel
    by_cases hlt : j < q
    · have hc := H.out.cell j (by omega)
      rw [words_get l j (by omega)] at hc
      have HO := Lib.hid (ones_any (word l j) (word_lt l j) w)
      rw [cnt_word] at HO
      have hm := cnt_le ((l.drop (64 * j)).take 64)
      have hm2 : ((l.drop (64 * j)).take 64).length ≤ 64 := by simp; omega
      have hn2 : Hid (n + cnt ((l.drop (64 * j)).take 64) = cnt (l.take (64 * (j + 1)))) := Lib.hid (by rw [show 64 * (j + 1) = 64 * j + 64 by omega, cnt_take_add, HN.out])
      generalize cnt ((l.drop (64 * j)).take 64) = m at *
      generalize word l j = W at *
      clear HN
      go_wp2_with (go_at_call 35; refine HO.out.mono ?_; rintro e w' ⟨rfl, rfl⟩)
      go_round
      case rel => exact ⟨j + 1, n + m, by go_num, by go_num, by omega, by omega, hn2⟩
      case measure => simp [intOf]; omega
    · obtain rfl : j = q := by omega
      have e0 : ¬ j < j := by omega
      by_cases hr0 : 0 < r
      · have hj64 : j < 64 := by have := E.out; omega
        have hc := H.out.cell j hj64
        rw [words_get l j hj64] at hc
        have HB := Lib.hid (quiet_of w (fun W => below_any r hr W))
        have ha := and_low (word l j) r (word_lt l j) hr
        have HO := Lib.hid (quiet_of w (fun W => ones_any (word l j % 2 ^ r) (Nat.lt_of_le_of_lt (Nat.mod_le _ _) (word_lt l j)) W))
        rw [cnt_low l j r (by omega)] at HO
        have hm := cnt_le ((l.drop (64 * j)).take r)
        have hm2 : ((l.drop (64 * j)).take r).length ≤ 64 := by simp; omega
        have hn2 : Hid (n + cnt ((l.drop (64 * j)).take r) = cnt (l.take i)) := Lib.hid (by rw [E.out, cnt_take_add, HN.out])
        have hlo : word l j % 2 ^ r < 18446744073709551616 := Nat.lt_of_le_of_lt (Nat.mod_le _ _) (word_lt l j)
        generalize cnt ((l.drop (64 * j)).take r) = m at *
        generalize word l j % 2 ^ r = V at *
        generalize word l j = W at *
        generalize 2 ^ r - 1 = M at *
        have wj : IntKind.i64.wrap (j : Int) = (j : Int) := by rw [IntKind.wrap_i64]; omega
        have wn : IntKind.i64.wrap ((n : Int) + (m : Int)) = ((n + m : Nat) : Int) := by rw [IntKind.wrap_i64]; omega
        have ix := index62 b j hj64
        go_wp2_with fail
        go_quiet (first | (go_at_call 36; exact HB.out _) | (go_at_call 35; exact HO.out _))
        go_wp2_with fail
        go_ret2
        rw [← hn2.out]
        exact ⟨by simp, _, rfl⟩
      · go_wp2_with fail
        go_ret2
        obtain rfl : r = 0 := by omega
        have : i = 64 * j := E.out
        rw [this, ← HN.out]
        exact ⟨rfl, 0, rfl⟩
theorem count_nil (w : World) : Calls Tryd.prog 15 #[.pointer none] w fun e w' => e = .returned (.int .i64 0) ∧ w = w' := by
  go_enter Tryd.func15, Tryd.ntmps15
  go_wp2_with (first | (go_at_call 31; refine (len_nil _).mono ?_; rintro e w' ⟨rfl, rfl⟩) | (go_at_call 12; refine (rank_nil _ _).mono ?_; rintro e w' ⟨rfl, rfl⟩))
  go_ret
  exact ⟨rfl, rfl⟩
theorem count_any {w : World} {b : Nat} {l : List Bool} (h : Fl w b l) : Calls Tryd.prog 15 #[.pointer (some ⟨b, 0, none⟩)] w fun e w' => e = .returned (.int .i64 (cnt l : Nat)) ∧ ∃ k, w' = w.drewN k := by
  have h1 := len_any h
  have h2 := rank_in h l.length (Nat.le_refl _)
  rw [List.take_length] at h2
  clear h
  go_enter Tryd.func15, Tryd.ntmps15
  go_wp2_with (first | (go_at_call 31; refine h1.mono ?_; rintro e w' ⟨rfl, rfl⟩) | (go_at_call 12; refine h2.mono ?_; rintro e w' ⟨rfl, k, rfl⟩))
  go_ret
  exact ⟨rfl, k, rfl⟩
end Go.Proofs.YtbdjpacmbaoaeaaDoor
