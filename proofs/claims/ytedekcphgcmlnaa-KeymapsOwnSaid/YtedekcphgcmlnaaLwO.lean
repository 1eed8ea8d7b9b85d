/- The walk of the law KeymapsOwn. -/
import Derived.Test.YtedekcphgcmlnaaOwA
namespace Go.Proofs.Ytedekcphgcmlnaa
open Go.RowKit

set_option maxRecDepth 100000 in
set_option maxHeartbeats 16000000 in
theorem lawO_any (hS : SortU 80) {w : World} {A0 A1 : Option Addr} {c0 c1 : Nat} {xs ys : List St} (h : SlT w A0 c0 xs) (k : SlT w A1 c1 ys) :
    Calls Try.prog 5 #[.agg #[.slice A0 xs.length c0], .agg #[.slice A1 ys.length c1]] w (Yes w) := by
  have HLv := Lib.hid (fun w => lives_any hS (by omega) w)
  have HS := Lib.hid hS
  have hb0 := below_alloc w (.cells #[.slice A0 xs.length c0] 45)
  have hb1 := below_alloc (w.alloc (.cells #[.slice A0 xs.length c0] 45)) (.cells #[.slice A1 ys.length c1] 45)
  have HX := Lib.hid ((h.below hb0).below hb1)
  have HY := Lib.hid ((k.below hb0).below hb1)
  have hyl := k.le
  have hym := k.max
  obtain ⟨V, hV⟩ : ∃ V : World, (w.alloc (.cells #[.slice A0 xs.length c0] 45)).alloc (.cells #[.slice A1 ys.length c1] 45) = V := ⟨_, rfl⟩
  obtain ⟨x, hx⟩ : ∃ x : Nat, w.heap.size = x := ⟨_, rfl⟩
  have hvx : V.heap[x]? = some (.cells #[.slice A0 xs.length c0] 45 (0, 0)) := by
    rw [← hV, Below.heap_alloc _ _ x (by simp [hx])]
    exact new_at _ hx
  have hvy : V.heap[x + 1]? = some (.cells #[.slice A1 ys.length c1] 45 (0, 0)) := by
    rw [← hV]
    exact new_at _ (by simp [hx])
  have hbV : Below w.heap.size w V := by rw [← hV]; exact hb0.trans (hb1.mono hb0.size)
  rw [hV] at HX HY
  have HVX := Lib.hid hvx
  have HVY := Lib.hid hvy
  have HB := Lib.hid hbV
  have v0 : V.cell? ⟨x, 0, none⟩ = some (.slice A0 xs.length c0) := cell_of_row _ _ 0 _ 45 (0, 0) hvx
  have C1 := Lib.hid (of_any HX.out)
  have CP : Hid (∀ W, Below V.heap.size V W → Calls Try.prog 19 #[.agg #[.slice A0 xs.length c0]] W fun e w' => ∃ A' c', e = .returned (.slice A' (prsT xs (min xs.length 80)).length c') ∧ SlR w' A' c' (prsT xs (min xs.length 80)) ∧ Below W.heap.size W w') := Lib.hid (fun W hW => pairs_any (HX.out.below hW))
  have hln := prsT_len xs (min xs.length 80)
  have hL80 : (prsT xs (min xs.length 80)).length ≤ 80 := by omega
  have HXC : Hid (∀ W, Below V.heap.size V W → W.cell? ⟨x, 0, none⟩ = some (.slice A0 xs.length c0)) := Lib.hid (fun W hW => cell_of_row _ _ 0 _ 45 (0, 0) ((hW.block x (heap_lt HVX.out)).trans HVX.out))
  have HYC : Hid (∀ W, Below V.heap.size V W → W.cell? ⟨x + 1, 0, none⟩ = some (.slice A1 ys.length c1)) := Lib.hid (fun W hW => cell_of_row _ _ 0 _ 45 (0, 0) ((hW.block (x + 1) (heap_lt HVY.out)).trans HVY.out))
  generalize prsT xs (min xs.length 80) = L at *
  clear h k hb0 hb1 hvx hvy hbV hS HVX HVY hln
  go_enter Try.func5, Try.ntmps5
  go_upto_region 1 with fail
  clear hV
  go_wp2_with fail
  refine C1.out.mono ?_
  rintro e W1 ⟨b, rfl, h1⟩
  have H1 := Lib.hid h1
  have C2 := Lib.hid (CP.out W1 h1.u)
  have x1 := HXC.out W1 h1.u
  clear h1 C1 CP v0
  go_wp2_with fail
  refine C2.out.mono ?_
  rintro e W2 ⟨A, c, rfl, hs2, hb2⟩
  have H2 := Lib.hid (H1.out.next hb2)
  have S2 := Lib.hid hs2
  have C3 := Lib.hid (lm_copy H2.out)
  clear hs2 hb2 C2 x1 H1
  go_wp2_with fail
  refine C3.out.mono ?_
  rintro e W3 ⟨b2, rfl, h3⟩
  have K3 := Lib.hid h3
  have H3 := Lib.hid (H2.out.next h3.u)
  have C4 := Lib.hid (lm_keys HS.out H3.out hL80)
  clear h3 C3
  go_wp2_with fail
  refine C4.out.mono ?_
  rintro e W4 ⟨hk4, _⟩
  obtain ⟨Ak, rfl, hk5⟩ := KI.of hk4
  have K4 := Lib.hid hk5
  clear hk4 hk5 C4 H3
  go_upto_block 0 with fail
  go_wp2_with fail
  obtain ⟨n, hn⟩ : ∃ n, L.length = n := ⟨_, rfl⟩
  have HN := Lib.hid hn
  rw [hn] at K4
  rw [hn]
  have hn80 : n ≤ 80 := by omega
  clear hn
  go_loopw [9] (fun v wr => ∃ i : Nat, v = .int .i64 i ∧ i ≤ n ∧ Hid (KI W3 wr Ak n)) (fun v _ => n - (intOf v).toNat)
  case atStart => exact ⟨0, rfl, Nat.zero_le _, K4⟩
  case round =>
    clear K4
    obtain ⟨i, rfl, hi, HI⟩ := hrel
    by_cases hlt : i < n
    · have hlt2 : (i : Int) < (n : Int) := by omega
      obtain ⟨g, z, hAk, z0, z1, HK⟩ := HI.out.at i hlt
      subst hAk
      clear HI
      go_wp2_with fail
      go_roundw
      case rel => exact ⟨i + 1, by rfl, by omega, Lib.hid (HK.out _)⟩
      case measure => simp [intOf]; omega
    · have hlt2 : ¬ ((i : Int) < (n : Int)) := by omega
      have K5 : Hid (Lm W2 wr b2 L 80) := Lib.hid (K3.out.next HI.out.u)
      have I5 : Hid (CpI W2 wr b2) := Lib.hid ⟨L, 80, K5.out⟩
      clear K5 K3 HI
      go_upto_block 2 with fail
      go_cut [10] from 31 to 70 (fun _ wx => Hid (CpI W2 wx b2))
      case first =>
        go_wp2_with fail
        rename World => wq
        go_loopw [10] (fun v wr => ∃ i : Nat, v = .int .i64 i ∧ i ≤ ys.length ∧ i ≤ 80 ∧ Hid (CpI W2 wr b2)) (fun v _ => 80 - (intOf v).toNat)
        case atStart => exact ⟨0, rfl, Nat.zero_le _, Nat.zero_le _, I5⟩
        case round =>
          clear I5
          obtain ⟨i, rfl, hi1, hi2, HI⟩ := hrel
          have hVw : Below V.heap.size V wr := H2.out.u.trans (HI.out.u.mono H2.out.u.size)
          have x0 := HYC.out wr hVw
          by_cases hlt : i < ys.length ∧ i < 80
          · obtain ⟨h1, h2⟩ := hlt
            have h3 : decide ((i : Int) < (ys.length : Int)) = true := by simp; omega
            have h4 : decide ((i : Int) < 80) = true := by simp; omega
            obtain ⟨bb, o, rfl, hbb, e0, e1, e2⟩ := (HY.out.below hVw).rd i h1
            obtain ⟨kk, hk⟩ : ∃ k, ys[i].key = k := ⟨_, rfl⟩
            obtain ⟨vv, hv⟩ : ∃ v, ys[i].v = v := ⟨_, rfl⟩
            obtain ⟨f, hf⟩ : ∃ f, ys[i].drop = f := ⟨_, rfl⟩
            rw [hk] at e0
            rw [hv] at e1
            rw [hf] at e2
            have HVW := Lib.hid hVw
            clear hk hv hf hbb hVw
            cases f with
            | true =>
              have D := Lib.hid (HI.out.drop kk)
              clear HI
              go_wp2_with fail
              refine D.out.mono ?_
              rintro e W ⟨f, rfl, hx⟩
              have HN := Lib.hid hx
              clear hx D
              go_wp2_with fail
              go_roundw
              case rel => exact ⟨i + 1, by rfl, by omega, by omega, HN⟩
              case measure => simp [intOf]; omega
            | false =>
              have D := Lib.hid (fun v => (HI.out.next (below_drewN wr 1)).put kk v)
              clear HI
              go_upto_region 14 with fail
              go_still_tail 14, (by kernel_rfl)
              change wpList _ _ _ _ _ wr.drew
              go_wp2_with fail
              refine (D.out _).mono ?_
              rintro e W ⟨f, rfl, hx⟩
              have HN := Lib.hid hx
              clear hx D
              go_wp2_with fail
              go_roundw
              case rel => exact ⟨i + 1, by rfl, by omega, by omega, HN⟩
              case measure => simp [intOf]; omega
          · by_cases h1 : i < ys.length
            · have h3 : decide ((i : Int) < (ys.length : Int)) = true := by simp; omega
              have h4 : decide ((i : Int) < 80) = false := by simp; omega
              clear hlt hVw
              go_wp2_with fail
              go_meet
              exact HI
            · have h3 : decide ((i : Int) < (ys.length : Int)) = false := by simp; omega
              clear hlt hVw
              go_wp2_with fail
              go_meet
              exact HI
      case rest =>
      have I6 := Lib.hid hcut.out
      clear hcut I5
      rename World => W6
      have H6 : Hid (Lm V W6 b L 80) := Lib.hid (H2.out.next I6.out.u)
      have S6 : Hid (SlR W6 A c L) := Lib.hid (S2.out.below I6.out.u)
      have C7 : Hid (Calls Try.prog 17 #[.pointer (some ⟨b, 0, none⟩), .slice A n c, .int .i64 80] W6 (Yes W6)) := Lib.hid (HN.out ▸ lm_same2 HS.out H6.out hL80 S6.out (Nat.le_refl 80) (by decide))
      clear I6 H2 S2 HXC HYC HX HY
      go_wp2_with fail
      refine C7.out.mono ?_
      rintro e W7 ⟨rfl, hb7⟩
      have H7 := Lib.hid (H6.out.next hb7)
      have S7 := Lib.hid (S6.out.below hb7)
      have C8 := Lib.hid (lm_copy H7.out)
      clear hb7 C7 H6 S6
      go_wp2_with fail
      refine C8.out.mono ?_
      rintro e W8 ⟨b8, rfl, h8⟩
      have K8 := Lib.hid h8
      have H8 := Lib.hid (H7.out.next h8.u)
      have S8 := Lib.hid (S7.out.below h8.u)
      have C9 := Lib.hid (lm_clear H8.out)
      have HB7 : Hid (b < W7.heap.size ∧ V.heap.size ≤ W7.heap.size) := Lib.hid ⟨by
        obtain ⟨s, S, h1, _⟩ := H7.out
        exact h1.lt, H7.out.u.size⟩
      clear h8 C8 H7 S7
      go_wp2_with fail
      refine C9.out.mono ?_
      rintro e W9 ⟨rfl, ⟨s9, he9⟩, hF⟩
      have E9 := Lib.hid he9
      have K9 := Lib.hid (lm_far K8.out HB7.out.1 hF he9.u HB7.out.2)
      have S9 := Lib.hid (slr_clear S8.out H8.out hF)
      have C10 : Hid (Calls Try.prog 17 #[.pointer (some ⟨b8, 0, none⟩), .slice A n c, .int .i64 80] W9 (Yes W9)) := Lib.hid (HN.out ▸ lm_same2 HS.out K9.out hL80 S9.out (Nat.le_refl 80) (by decide))
      clear he9 hF K8 H8 S8 C9 K9 S9 HB7
      go_wp2_with fail
      refine C10.out.mono ?_
      rintro e W10 ⟨rfl, hb10⟩
      have E10 := Lib.hid (E9.out.next hb10)
      have C11 : Hid (Calls Try.prog 17 #[.pointer (some ⟨b, 0, none⟩), .slice none 0 0, .int .i64 0] W10 (Yes W10)) := Lib.hid (lm_same2 HS.out E10.out.lm (show ([] : PL).length ≤ 80 from Nat.zero_le _) (SlR.none W10) (Nat.le_refl 0) (by decide))
      clear hb10 C10 E9
      go_wp2_with fail
      refine C11.out.mono ?_
      rintro e W11 ⟨rfl, hb11⟩
      have E11 := Lib.hid (E10.out.next hb11)
      have C12 : Hid (Calls Try.prog 23 #[.pointer (some ⟨b, 0, none⟩)] W11 fun e w' => e = .returned (.int .i64 0) ∧ w' = W11) := Lib.hid (slots_any E11.out.mp)
      have C13 : Hid (Calls Try.prog 14 #[.pointer (some ⟨b, 0, none⟩), .int .u64 3, .int .i64 4] W11 fun e w' => e = .returned (.int .i64 0) ∧ Lm V w' b [(3, 4)] 1) := Lib.hid (lm_put E11.out.lm 3 4)
      clear hb11 C11 E10
      go_wp2_with fail
      refine C12.out.mono ?_
      rintro e w12 ⟨rfl, rfl⟩
      rename World => W12
      go_wp2_with fail
      refine C13.out.mono ?_
      rintro e W13 ⟨rfl, h13⟩
      have hb13 : Below W13.heap.size W13 (W13.alloc (.cells (rv [(3, 4)]).toArray 41)) := (Below.refl _ _).alloc (Nat.le_refl _) _
      have C14 : Hid (Calls Try.prog 17 #[.pointer (some ⟨b, 0, none⟩), .slice (some ⟨W13.heap.size, 0, none⟩) 1 1, .int .i64 1] (W13.alloc (.cells #[.int .u64 3, .int .i64 4] 41)) fun e w' => e = .returned (.bool true) ∧ Lm V w' b [(3, 4)] 1) := Lib.hid (lm_same HS.out (h13.next hb13) (show ([(3, 4)] : PL).length ≤ 80 by decide) (slr_lit W13 [(3, 4)] (by decide)) (Nat.le_refl 1) (by decide))
      clear h13 C13 C12 hb13 E11
      go_wp2_with fail
      refine C14.out.mono ?_
      rintro e W14 ⟨rfl, h14⟩
      have H14 := Lib.hid h14.u
      clear h14 C14
      go_wp2_with fail
      refine (HLv.out _).mono ?_
      rintro e W15 ⟨rfl, hb15⟩
      have HU := Lib.hid (HB.out.trans ((H14.out.trans (hb15.mono H14.out.size)).mono HB.out.size))
      clear hb15
      go_wp2_with fail
      go_ret
      exact ⟨rfl, HU.out⟩
end Go.Proofs.Ytedekcphgcmlnaa
