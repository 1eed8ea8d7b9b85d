/- The walk of Next: a false bit is sought. -/
import Derived.Test.YtbdjpacmbaoaeaaDoorNextW
namespace Go.Proofs.YtbdjpacmbaoaeaaDoor
open Go.RowKit

set_option maxHeartbeats 4000000 in
theorem next_false {w : World} {b : Nat} {l : List Bool} (h : Fl w b l) (hT : Tab w) (i : Nat) (hi : i ≤ l.length) : Calls Tryd.prog 16 #[.pointer (some ⟨b, 0, none⟩), .int .i64 i, .bool false] w fun e w' => ∃ r, e = .returned (nxPair r) ∧ IsNx l i false r ∧ w = w' := by
  have hp := part_any h i 0 (by have := h.le; omega)
  rw [show partErr l.length i 0 = 0 by unfold partErr; rw [if_neg (by omega)]] at hp
  have hl := h.le
  have hc0 := h.size
  have H := Lib.hid h
  have HT := Lib.hid hT
  have HW := Lib.hid (wordsOf_any l.length hl w)
  obtain ⟨m, e0⟩ : ∃ m, m = (l.length + 63) / 64 := ⟨_, rfl⟩
  rw [← e0] at HW
  obtain ⟨q, e1⟩ : ∃ q, q = i / 64 := ⟨_, rfl⟩
  obtain ⟨r, e2⟩ : ∃ r, r = i % 64 := ⟨_, rfl⟩
  have a1 : (i : Int) / 64 = (q : Int) := by omega
  have a2 : (i : Int) % 64 = (r : Int) := by omega
  have hr : r < 64 := by omega
  have hq : q ≤ m := by omega
  have hm : m ≤ 64 := by omega
  have E : Hid (i = 64 * q + r) := Lib.hid (by omega)
  have EM : Hid (l.length ≤ 64 * m) := Lib.hid (by omega)
  have HB := Lib.hid (below_any r hr w)
  clear h e0 e1 e2 hT
  go_enter Tryd.func16, Tryd.ntmps16
  go_wp2_with (go_at_call 34; refine hp.mono ?_; rintro e w' ⟨rfl, rfl⟩)
  go_loop [10] (fun k => ∃ (j : Nat), k = .int .i64 j ∧ q ≤ j ∧ j ≤ m ∧ Hid (∀ p, i ≤ p → p < 64 * j → p < l.length → l[p]? ≠ some false)) (fun k => m - (intOf k).toNat)
  case atStart => exact ⟨q, rfl, Nat.le_refl _, hq, Lib.hid (fun p h1 h2 => by have := E.out; omega)⟩
  case round =>
    obtain ⟨j, rfl, hqj, hj, HN⟩ := hrel
    by_cases hlt : j < m
    · have hcell := H.out.cell j (by omega)
      rw [words_get l j (by omega)] at hcell
      have hx := xor_u64 (word l j) (word_lt l j)
      have hsg : IntKind.u64.signed = false := rfl
      by_cases hjq : j = q
      · subst hjq
        have HS := Lib.hid ((Srch.none l j).from r hr)
        have ha := andNot_u64 ((18446744073709551615 - word l j)) (2 ^ r - 1) (by omega) (by have := two_pow_lt r hr; omega)
        obtain ⟨g, hg⟩ : ∃ g, g = ((18446744073709551615 - word l j)) &&& (18446744073709551615 - (2 ^ r - 1)) := ⟨_, rfl⟩
        rw [← hg] at ha HS
        have HM : Hid (∀ p, i ≤ p → p < 64 * j + r → p < l.length → l[p]? ≠ some false) := Lib.hid (fun p h1 h2 => by have := E.out; omega)
        have H1 := Lib.hid (fun h0 ha => HS.out.hit (i := i) (Nat.le_of_eq E.out) HM.out h0 ha)
        clear hg
        have HC := Lib.hid (tz_any g HS.out.lt w HT.out)
        have hlc : Lib.ctz 64 g ≤ 64 := by
          by_cases h0 : g = 0
          · rw [h0]; decide
          · exact Nat.le_of_lt (ctz64_spec g h0 HS.out.lt).1
        have H2 := Lib.hid (fun h0 => HS.out.miss HM.out h0)
        have hgl := HS.out.lt
        generalize Lib.ctz 64 g = z at *
        generalize 2 ^ r - 1 = M at *
        generalize hV : 18446744073709551615 - word l j = V at *
        clear hV
        generalize word l j = W at *
        clear HM
        by_cases h0 : g = 0
        · have H3 := Lib.hid (H2.out (.inl h0))
          subst h0
          go_wp2_with (first | (go_at_call 34; refine hp.mono ?_; rintro e w' ⟨rfl, rfl⟩) | (go_at_call 37; refine HW.out.mono ?_; rintro e w' ⟨rfl, rfl⟩) | (go_at_call 36; refine HB.out.mono ?_; rintro e w' ⟨rfl, rfl⟩) | (go_at_call 39; refine HC.out.mono ?_; rintro e w' ⟨rfl, rfl⟩))
          go_round
          case rel => exact ⟨j + 1, by go_num, by omega, by omega, H3⟩
          case measure => simp [intOf]; omega
        · have g1 : ((g : Int) == 0) = false := by simp; omega
          have g2 : ((g : Int) != 0) = true := by simp; omega
          by_cases h1 : 64 * j + z < l.length
          · go_wp2_with (first | (go_at_call 34; refine hp.mono ?_; rintro e w' ⟨rfl, rfl⟩) | (go_at_call 37; refine HW.out.mono ?_; rintro e w' ⟨rfl, rfl⟩) | (go_at_call 36; refine HB.out.mono ?_; rintro e w' ⟨rfl, rfl⟩) | (go_at_call 39; refine HC.out.mono ?_; rintro e w' ⟨rfl, rfl⟩))
            go_ret2
            refine ⟨some (64 * j + z), ?_, H1.out h0 h1, rfl⟩
            simp [nxPair]
            omega
          · go_wp2_with (first | (go_at_call 34; refine hp.mono ?_; rintro e w' ⟨rfl, rfl⟩) | (go_at_call 37; refine HW.out.mono ?_; rintro e w' ⟨rfl, rfl⟩) | (go_at_call 36; refine HB.out.mono ?_; rintro e w' ⟨rfl, rfl⟩) | (go_at_call 39; refine HC.out.mono ?_; rintro e w' ⟨rfl, rfl⟩))
            go_round
            case rel => exact ⟨j + 1, by go_num, by omega, by omega, Lib.hid (H2.out (.inr (by omega)))⟩
            case measure => simp [intOf]; omega
      · have HS := Lib.hid (Srch.none l j)
        obtain ⟨g, hg⟩ : ∃ g, g = ((18446744073709551615 - word l j)) := ⟨_, rfl⟩
        rw [← hg] at HS
        have HM : Hid (∀ p, i ≤ p → p < 64 * j + 0 → p < l.length → l[p]? ≠ some false) := Lib.hid (fun p h1 h2 h3 => HN.out p h1 (by omega) h3)
        have H1 := Lib.hid (fun h0 ha => HS.out.hit (i := i) (by have := E.out; omega) HM.out h0 ha)
        have hjq2 : ((j : Int) == (q : Int)) = false := by simp; omega
        rw [← hg] at hx
        clear hg
        have HC := Lib.hid (tz_any g HS.out.lt w HT.out)
        have hlc : Lib.ctz 64 g ≤ 64 := by
          by_cases h0 : g = 0
          · rw [h0]; decide
          · exact Nat.le_of_lt (ctz64_spec g h0 HS.out.lt).1
        have H2 := Lib.hid (fun h0 => HS.out.miss HM.out h0)
        have hgl := HS.out.lt
        generalize Lib.ctz 64 g = z at *
        generalize 2 ^ r - 1 = M at *
        generalize word l j = W at *
        clear HM
        by_cases h0 : g = 0
        · have H3 := Lib.hid (H2.out (.inl h0))
          subst h0
          go_wp2_with (first | (go_at_call 34; refine hp.mono ?_; rintro e w' ⟨rfl, rfl⟩) | (go_at_call 37; refine HW.out.mono ?_; rintro e w' ⟨rfl, rfl⟩) | (go_at_call 36; refine HB.out.mono ?_; rintro e w' ⟨rfl, rfl⟩) | (go_at_call 39; refine HC.out.mono ?_; rintro e w' ⟨rfl, rfl⟩))
          go_round
          case rel => exact ⟨j + 1, by go_num, by omega, by omega, H3⟩
          case measure => simp [intOf]; omega
        · have g1 : ((g : Int) == 0) = false := by simp; omega
          have g2 : ((g : Int) != 0) = true := by simp; omega
          by_cases h1 : 64 * j + z < l.length
          · go_wp2_with (first | (go_at_call 34; refine hp.mono ?_; rintro e w' ⟨rfl, rfl⟩) | (go_at_call 37; refine HW.out.mono ?_; rintro e w' ⟨rfl, rfl⟩) | (go_at_call 36; refine HB.out.mono ?_; rintro e w' ⟨rfl, rfl⟩) | (go_at_call 39; refine HC.out.mono ?_; rintro e w' ⟨rfl, rfl⟩))
            go_ret2
            refine ⟨some (64 * j + z), ?_, H1.out h0 h1, rfl⟩
            simp [nxPair]
            omega
          · go_wp2_with (first | (go_at_call 34; refine hp.mono ?_; rintro e w' ⟨rfl, rfl⟩) | (go_at_call 37; refine HW.out.mono ?_; rintro e w' ⟨rfl, rfl⟩) | (go_at_call 36; refine HB.out.mono ?_; rintro e w' ⟨rfl, rfl⟩) | (go_at_call 39; refine HC.out.mono ?_; rintro e w' ⟨rfl, rfl⟩))
            go_round
            case rel => exact ⟨j + 1, by go_num, by omega, by omega, Lib.hid (H2.out (.inr (by omega)))⟩
            case measure => simp [intOf]; omega
    · obtain rfl : j = m := by omega
      go_wp2_with (first | (go_at_call 34; refine hp.mono ?_; rintro e w' ⟨rfl, rfl⟩) | (go_at_call 37; refine HW.out.mono ?_; rintro e w' ⟨rfl, rfl⟩) | (go_at_call 36; refine HB.out.mono ?_; rintro e w' ⟨rfl, rfl⟩) | (go_at_call 39; refine HC.out.mono ?_; rintro e w' ⟨rfl, rfl⟩))
      go_ret2
      exact ⟨none, rfl, fun p h1 h2 => HN.out p h1 (by have := EM.out; omega) h2, rfl⟩
end Go.Proofs.YtbdjpacmbaoaeaaDoor
