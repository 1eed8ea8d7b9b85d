/- The walk of the law KeymapsKnown. -/
import Derived.Test.YtedekcphgcmlnaaKnA
namespace Go.Proofs.Ytedekcphgcmlnaa
open Go.RowKit

set_option maxRecDepth 100000 in
set_option maxHeartbeats 8000000 in
theorem lawK_any {N : Nat} (hS : SortU N) (hN : 5 ≤ N) (w : World) : Calls Try.prog 8 #[] w (Yes w) := by
  have HLv := Lib.hid (fun w => lives_any hS (by omega) w)
  have HS := Lib.hid hS
  have H0 := Lib.hid (lm_new (Below.refl w.heap.size w))
  obtain ⟨b, hb⟩ : ∃ b : Nat, w.heap.size = b := ⟨_, rfl⟩
  clear hS
  go_enter Try.func8, Try.ntmps8
  go_wp2_with fail
  refine H0.out.mono ?_
  rintro e w1 ⟨rfl, _, hl⟩
  rw [hb] at hl ⊢
  have HBB := Lib.hid hb
  have HL : Hid (Lm w w1 b (kb 0) 0) := Lib.hid (by unfold kb; exact hl)
  clear hl hb H0
  go_wp2_with fail
  go_loopw [2] (fun v wr => ∃ i M : Nat, v = .int .i64 ((i + 1 : Nat) : Int) ∧ i ≤ 4096 ∧ M ≤ 4096 ∧ Hid (Lm w wr b (kb i) M)) (fun v _ => 5000 - (intOf v).toNat)
  case atStart => exact ⟨0, 0, rfl, by omega, by omega, HL⟩
  case round =>
    clear HL
    obtain ⟨i, M, rfl, hi, hM, HI⟩ := hrel
    by_cases hlt : i < 4096
    · have hlt2 : ((i : Int) + 1 < 4097) := by omega
      have C := lm_put HI.out (((i + 1 : Nat) : Int) * 1099511627776) ((i + 1 : Nat) : Int)
      rw [kb_put hlt] at C
      have HC := Lib.hid C
      clear C
      go_wp2_with fail
      refine HC.out.mono ?_
      rintro e w2 ⟨rfl, hx⟩
      have HX := Lib.hid hx
      have HKL := Lib.hid (kb_len (i + 1))
      clear hx HC HI
      go_wp2_with fail
      go_roundw
      case rel => exact ⟨i + 1, max M (kb (i + 1)).length, by rfl, by omega, by rw [HKL.out]; omega, HX⟩
      case measure => simp [intOf]; omega
    · have hlt2 : ¬ ((i : Int) + 1 < 4097) := by omega
      obtain rfl : i = 4096 := by omega
      have C1 : Hid (Calls Try.prog 24 #[.pointer (some ⟨b, 0, none⟩)] wr fun e w' => e = .returned (.int .i64 4096) ∧ w' = wr) := Lib.hid (by
        have := lm_len HI.out
        rwa [kb_len] at this)
      have C2 : Hid (Calls Try.prog 14 #[.pointer (some ⟨b, 0, none⟩), .int .u64 7, .int .i64 7] wr fun e w' => e = .returned (.int .i64 3) ∧ Lm w w' b (kb 4096) (max M 4096)) := Lib.hid (by
        have := lm_put HI.out 7 7
        rwa [put_full (by decide) 7 (kb_seven 4096) (kb_len 4096), kb_len] at this)
      have hmx : max M 4096 = 4096 := by omega
      rw [hmx] at C2
      clear HI hmx
      go_wp2_with fail
      refine C1.out.mono ?_
      rintro e w2 ⟨rfl, rfl⟩
      rename World => W1
      clear C1
      go_wp2_with fail
      refine C2.out.mono ?_
      rintro e W2 ⟨rfl, h2⟩
      have C3 : Hid (Calls Try.prog 14 #[.pointer (some ⟨b, 0, none⟩), .int .u64 1099511627776, .int .i64 9] W2 fun e w' => e = .returned (.int .i64 0) ∧ Lm w w' b (kt 1) (max 4096 (kt 1).length)) := Lib.hid (by
        have := lm_put h2 1099511627776 9
        rwa [kt_one] at this)
      clear h2 C2
      go_wp2_with fail
      refine C3.out.mono ?_
      rintro e W3 ⟨rfl, h3⟩
      have h3' : Lm w W3 b (kt 1) 4096 := by
        have e : (kt 1).length = 4096 := by
          unfold kt
          rw [List.length_cons, List.length_drop, kb_len]
        rwa [e, show max 4096 4096 = 4096 from rfl] at h3
      have H3 := Lib.hid h3'
      obtain ⟨n, hn, hs⟩ := lm_slots h3'
      have C4 := Lib.hid hs
      have hn2 : ¬ (32768 < (n : Int)) := by omega
      clear h3 h3' hs C3 hn
      go_wp2_with fail
      refine C4.out.mono ?_
      rintro e w2 ⟨rfl, rfl⟩
      rename World => W3
      clear C4
      go_wp2_with fail
      go_loopw [3] (fun v wr => ∃ i : Nat, v = .int .i64 ((i + 1 : Nat) : Int) ∧ 1 ≤ i ∧ i ≤ 4096 ∧ Hid (Lm w wr b (kt i) 4096)) (fun v _ => 5000 - (intOf v).toNat)
      case atStart => exact ⟨1, rfl, by omega, by omega, H3⟩
      case round =>
        clear H3
        obtain ⟨i, rfl, hi1, hi, HI⟩ := hrel
        by_cases hlt : i < 4096
        · have hlt2 : ((i : Int) + 1 < 4097) := by omega
          have C := lm_get HI.out (((i + 1 : Nat) : Int) * 1099511627776)
          rw [(kt_get hi1 hlt).1, (kt_get hi1 hlt).2] at C
          have HC := Lib.hid C
          clear C
          go_wp2_with fail
          refine HC.out.mono ?_
          rintro e w2 ⟨rfl, hx⟩
          have D := lm_drop hx (((i + 1 : Nat) : Int) * 1099511627776)
          rw [kt_drop hi1 hlt] at D
          have HD := Lib.hid D
          clear D hx HC HI
          go_wp2_with fail
          refine HD.out.mono ?_
          rintro e w3 ⟨rfl, hx⟩
          have HX := Lib.hid hx
          clear hx HD
          go_wp2_with fail
          go_roundw
          case rel => exact ⟨i + 1, by rfl, by omega, by omega, HX⟩
          case measure => simp [intOf]; omega
        · have hlt2 : ¬ ((i : Int) + 1 < 4097) := by omega
          obtain rfl : i = 4096 := by omega
          have hk := HI.out
          rw [kt_end] at hk
          have C1 : Hid (Calls Try.prog 15 #[.pointer (some ⟨b, 0, none⟩), .int .u64 1099511627776] wr fun e w' => e = .returned (.tuple #[.int .i64 9, .bool true]) ∧ Lm w w' b [(1099511627776, 9)] 4096) := Lib.hid (lm_get hk 1099511627776)
          clear hk HI
          go_wp2_with fail
          refine C1.out.mono ?_
          rintro e W4 ⟨rfl, h4⟩
          have C2 : Hid (Calls Try.prog 24 #[.pointer (some ⟨b, 0, none⟩)] W4 fun e w' => e = .returned (.int .i64 1) ∧ w' = W4) := Lib.hid (lm_len h4)
          have HU := Lib.hid h4.u
          clear h4 C1
          go_wp2_with fail
          refine C2.out.mono ?_
          rintro e w2 ⟨rfl, rfl⟩
          rename World => W4
          have C3 := Lib.hid (lm_new HU.out)
          clear C2
          go_wp2_with fail
          refine C3.out.mono ?_
          rintro e W5 ⟨rfl, _, h5⟩
          obtain ⟨b2, hb2⟩ : ∃ b2 : Nat, W4.heap.size = b2 := ⟨_, rfl⟩
          rw [hb2] at h5 ⊢
          have HL : Hid (Lm w W5 b2 (seg (0 - 5) 0) 0) := Lib.hid (by unfold seg; exact h5)
          clear h5 hb2 C3 HU
          go_wp2_with fail
          go_loopw [9] (fun v wr => ∃ i M : Nat, v = .int .i64 ((i + 1 : Nat) : Int) ∧ i ≤ 2999 ∧ M ≤ 6 ∧ Hid (Lm w wr b2 (seg (i - 5) i) M)) (fun v _ => 5000 - (intOf v).toNat)
          case atStart => exact ⟨0, 0, rfl, by omega, by omega, HL⟩
          case round =>
            clear HL
            obtain ⟨i, M, rfl, hi, hM, HI⟩ := hrel
            by_cases hlt : i < 2999
            · have hlt2 : ((i : Int) + 1 < 3000) := by omega
              have C := lm_put HI.out ((i + 1 : Nat) : Int) ((i + 1 : Nat) : Int)
              rw [seg_put (by omega) (by omega)] at C
              have HC := Lib.hid C
              clear C
              go_wp2_with fail
              refine HC.out.mono ?_
              rintro e w2 ⟨rfl, hx⟩
              rw [seg_len] at hx
              by_cases h5 : 5 ≤ i
              · have h5' : (5 : Int) < (i : Int) + 1 := by omega
                obtain ⟨kx, hkx⟩ : ∃ kx : Int, (i : Int) + 1 - 5 = kx := ⟨_, rfl⟩
                have D := lm_drop hx kx
                rw [show kx = ((i - 5 + 1 : Nat) : Int) by omega, seg_drop (by omega), show ((i - 5 + 1 : Nat) : Int) = kx by omega] at D
                have HD := Lib.hid D
                have hkx0 : 0 ≤ kx := by omega
                have hkx1 : kx ≤ 3000 := by omega
                clear D hx HC HI
                go_wp2_with fail
                refine HD.out.mono ?_
                rintro e w3 ⟨rfl, hx⟩
                have HX := Lib.hid hx
                clear hx HD
                go_wp2_with fail
                go_roundw
                case rel => exact ⟨i + 1, max M (i + 1 - (i - 5)), by rfl, by omega, by omega, by rw [show i + 1 - 5 = i - 5 + 1 by omega]; exact HX⟩
                case measure => simp [intOf]; omega
              · have h5' : ¬ ((5 : Int) < (i : Int) + 1) := by omega
                have HX := Lib.hid hx
                clear hx HC HI
                go_wp2_with fail
                go_roundw
                case rel => exact ⟨i + 1, max M (i + 1 - (i - 5)), by rfl, by omega, by omega, by rw [show i + 1 - 5 = i - 5 by omega]; exact HX⟩
                case measure => simp [intOf]; omega
            · have hlt2 : ¬ ((i : Int) + 1 < 3000) := by omega
              obtain rfl : i = 2999 := by omega
              have hI := HI.out
              rw [show 2999 - 5 = 2994 from rfl, seg_five] at hI
              obtain ⟨n2, hn2, hs⟩ := lm_slots hI
              have C1 : Hid (Calls Try.prog 24 #[.pointer (some ⟨b2, 0, none⟩)] wr fun e w' => e = .returned (.int .i64 5) ∧ w' = wr) := Lib.hid (lm_len hI)
              have C2 := Lib.hid hs
              have C3 : Hid (Calls Try.prog 14 #[.pointer (some ⟨b2, 0, none⟩), .int .u64 18446744073709551615, .int .i64 1] wr fun e w' => e = .returned (.int .i64 0) ∧ Lm w w' b2 [(2995, 2995), (2996, 2996), (2997, 2997), (2998, 2998), (2999, 2999), (18446744073709551615, 1)] (max M 6)) := Lib.hid (lm_put hI 18446744073709551615 1)
              have hmx : max M 6 = 6 := by omega
              rw [hmx] at C3
              have hn3 : (n2 : Int) ≤ 48 := by omega
              clear hI HI hs hn2 hmx
              go_wp2_with fail
              refine C1.out.mono ?_
              rintro e w2 ⟨rfl, rfl⟩
              rename World => W6
              go_wp2_with fail
              refine C2.out.mono ?_
              rintro e w2 ⟨rfl, rfl⟩
              rename World => W6
              clear C1 C2
              go_wp2_with fail
              refine C3.out.mono ?_
              rintro e W7 ⟨rfl, h7⟩
              have C4 : Hid (Calls Try.prog 12 #[.pointer (some ⟨b2, 0, none⟩), .int .u64 18446744073709551615] W7 fun e w' => e = .returned (.bool true) ∧ Lm w w' b2 [(2995, 2995), (2996, 2996), (2997, 2997), (2998, 2998), (2999, 2999)] 6) := Lib.hid (lm_drop h7 18446744073709551615)
              clear h7 C3
              go_wp2_with fail
              refine C4.out.mono ?_
              rintro e W8 ⟨rfl, h8⟩
              have hb8 : Below W8.heap.size W8 (W8.alloc (.cells (rv [(2995, 2995), (2996, 2996), (2997, 2997), (2998, 2998), (2999, 2999)]).toArray 41)) := (Below.refl _ _).alloc (Nat.le_refl _) _
              have C5 : Hid (Calls Try.prog 17 #[.pointer (some ⟨b2, 0, none⟩), .slice (some ⟨W8.heap.size, 0, none⟩) 5 5, .int .i64 6] (W8.alloc (.cells #[.int .u64 2995, .int .i64 2995, .int .u64 2996, .int .i64 2996, .int .u64 2997, .int .i64 2997, .int .u64 2998, .int .i64 2998, .int .u64 2999, .int .i64 2999] 41)) fun e w' => e = .returned (.bool true) ∧ Lm w w' b2 [(2995, 2995), (2996, 2996), (2997, 2997), (2998, 2998), (2999, 2999)] 6) := Lib.hid (lm_same HS.out (h8.next hb8) hN (slr_lit W8 [(2995, 2995), (2996, 2996), (2997, 2997), (2998, 2998), (2999, 2999)] (by decide)) (Nat.le_refl 6) (by decide))
              clear h8 C4 hb8
              go_wp2_with fail
              refine C5.out.mono ?_
              rintro e W9 ⟨rfl, h9⟩
              have H9 := Lib.hid h9.u
              clear h9 C5
              go_wp2_with fail
              refine (HLv.out _).mono ?_
              rintro e W10 ⟨rfl, hb10⟩
              have HB10 := Lib.hid hb10
              clear hb10
              go_wp2_with fail
              go_ret
              exact ⟨rfl, H9.out.trans (HB10.out.mono H9.out.size)⟩
end Go.Proofs.Ytedekcphgcmlnaa
