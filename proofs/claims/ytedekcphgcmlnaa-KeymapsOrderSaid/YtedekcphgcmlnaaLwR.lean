/- The walk of the law KeymapsOrder. -/
import Derived.Test.YtedekcphgcmlnaaOwR
import Derived.Test.YtedekcphgcmlnaaLwG
import Derived.Deep.RegionHeld3
namespace Go.Proofs.Ytedekcphgcmlnaa
open Go.RowKit

set_option maxRecDepth 100000 in
set_option maxHeartbeats 16000000 in
theorem lawR_any (hS : SortU 80) {w : World} {A0 A1 : Option Addr} {c0 c1 : Nat} {xs ys : List St} (h : SlT w A0 c0 xs) (k : SlT w A1 c1 ys) (n0 : A0 = none → c0 = 0) (n1 : A1 = none → c1 = 0) :
    Calls Try.prog 6 #[.agg #[.slice A0 xs.length c0], .agg #[.slice A1 ys.length c1]] w (Yes w) := by
  have HLv := Lib.hid (fun w => lives_any hS (by omega) w)
  have HS := Lib.hid hS
  have hb0 := below_alloc w (.cells #[.slice A0 xs.length c0] 45)
  have hb1 := below_alloc (w.alloc (.cells #[.slice A0 xs.length c0] 45)) (.cells #[.slice A1 ys.length c1] 45)
  have HX := Lib.hid ((h.below hb0).below hb1)
  have HY := Lib.hid ((k.below hb0).below hb1)
  have hxl := h.le
  have hxm := h.max
  have hyl := k.le
  have hym := k.max
  obtain ⟨V, hV⟩ : ∃ V : World, (w.alloc (.cells #[.slice A0 xs.length c0] 45)).alloc (.cells #[.slice A1 ys.length c1] 45) = V := ⟨_, rfl⟩
  obtain ⟨x, hx⟩ : ∃ x : Nat, w.heap.size = x := ⟨_, rfl⟩
  have hvx : V.heap[x]? = some (.cells #[.slice A0 xs.length c0] 45 (0, 0)) := by
    rw [← hV, Below.heap_alloc _ _ x (by simp [hx])]
    exact new_at _ hx
  have hvy : V.heap[x + 1]? = some (.cells #[.slice A1 ys.length c1] 45 (0, 0)) := by
    rw [← hV]
    exact new_at _ (by simp [hx])
  have hbV : Below w.heap.size w V := by rw [← hV]; exact hb0.trans (hb1.mono hb0.size)
  rw [hV] at HX HY
  have HVX := Lib.hid hvx
  have HVY := Lib.hid hvy
  have HB := Lib.hid hbV
  have HXC : Hid (∀ W, Below V.heap.size V W → W.cell? ⟨x, 0, none⟩ = some (.slice A0 xs.length c0)) := Lib.hid (fun W hW => cell_of_row _ _ 0 _ 45 (0, 0) ((hW.block x (heap_lt HVX.out)).trans HVX.out))
  have HYC : Hid (∀ W, Below V.heap.size V W → W.cell? ⟨x + 1, 0, none⟩ = some (.slice A1 ys.length c1)) := Lib.hid (fun W hW => cell_of_row _ _ 0 _ 45 (0, 0) ((hW.block (x + 1) (heap_lt HVY.out)).trans HVY.out))
  obtain ⟨l, hl⟩ : ∃ l, bothT xs ys = l := ⟨_, rfl⟩
  have hbl := both_len xs ys
  rw [hl] at hbl
  obtain ⟨m0, hm0, hn0⟩ : ∃ m : Nat, (if (40 : Int) < (xs.length : Int) then (40 : Int) else (xs.length : Int)) = (m : Int) ∧ m = min xs.length 40 := ⟨min xs.length 40, by split <;> omega, rfl⟩
  obtain ⟨m1, hm1, hn1⟩ : ∃ m : Nat, (if (40 : Int) < (ys.length : Int) then (40 : Int) else (ys.length : Int)) = (m : Int) ∧ m = min ys.length 40 := ⟨min ys.length 40, by split <;> omega, rfl⟩
  have z0 : (m0 : Int) ≤ (c0 : Int) := by omega
  have z1 : (m1 : Int) ≤ (c1 : Int) := by omega
  have S0 : Hid (∀ W, Below V.heap.size V W → SlT W A0 c0 (xs.take 40)) := Lib.hid (fun W hW => (HX.out.below hW).head 40)
  have S1 : Hid (∀ W, Below V.heap.size V W → SlT W A1 c1 (ys.take 40)) := Lib.hid (fun W hW => (HY.out.below hW).head 40)
  have e0 : Hid (m0 = (xs.take 40).length) := Lib.hid (by rw [List.length_take]; omega)
  have e1 : Hid (m1 = (ys.take 40).length) := Lib.hid (by rw [List.length_take]; omega)
  have HN0 := Lib.hid n0
  have HN1 := Lib.hid n1
  have HL : Hid (xs.take 40 ++ ys.take 40 = l) := Lib.hid hl
  have hl80 : l.length ≤ 80 := by omega
  have HLast0 := Lib.hid (fun i (h1 : i < ys.length) h2 => both_last (xs := xs) h1 h2)
  rw [hl] at HLast0
  clear h k hb0 hb1 hvx hvy hbV hS HVX HVY hn0 hn1 n0 n1 hl hbl
  go_enter Try.func6, Try.ntmps6
  go_upto_region 1 with fail
  clear hV
  have B0 : Hid (Below V.heap.size V V.drew) := Lib.hid (Below.refl _ _).drew
  have BZ : Hid (Below V.heap.size V (V.alloc (.cells #[.slice none 0 0] 45)).drew) := Lib.hid ((Below.refl _ _).alloc (Nat.le_refl _) _).drew
  have RA := Lib.hid (RG.made V).drew
  have RAz : Hid (RG V ((V.alloc (.cells #[] 29)).alloc (.cells #[.slice none 0 0] 45)).drew (.slice (some ⟨V.heap.size, 0, none⟩) 0 0) [] (some (V.heap.size + 1))) := Lib.hid (by
    have := (RG.made V).alloc.drew
    rwa [show (V.alloc (.cells #[] 29)).heap.size = V.heap.size + 1 from by simp] at this)
  have RZ := Lib.hid (RG.madeZ V).drew
  go_cut [5] from 12 to 29 (fun s5 wx => ∃ (g : Nat) (A : Option Addr) (c : Nat), s5 = .pointer (some ⟨g, 0, none⟩) ∧ Hid (Fin V wx g A c l))
  case first =>
    go_region_held3 (fun U => U.cell? ⟨x, 0, none⟩ = some (.slice A0 xs.length c0) ∧ U.cell? ⟨x + 1, 0, none⟩ = some (.slice A1 ys.length c1))
      (first
        | with_reducible exact ⟨HXC.out _ B0.out, HYC.out _ B0.out⟩
        | with_reducible exact ⟨HXC.out _ BZ.out, HYC.out _ BZ.out⟩
        | with_reducible exact ⟨HXC.out _ RA.out.u, HYC.out _ RA.out.u⟩
        | with_reducible exact ⟨HXC.out _ RAz.out.u, HYC.out _ RAz.out.u⟩
        | with_reducible exact ⟨HXC.out _ RZ.out.u, HYC.out _ RZ.out.u⟩
        | with_reducible exact ⟨HXC.out _ H1.out.u, HYC.out _ H1.out.u⟩
        | with_reducible exact ⟨HXC.out _ Z1.out.u, HYC.out _ Z1.out.u⟩
        | with_reducible exact ⟨HXC.out _ F3.out.u, HYC.out _ F3.out.u⟩
        | with_reducible exact ⟨HXC.out _ H3.out.u, HYC.out _ H3.out.u⟩
        | with_reducible exact ⟨HXC.out _ Z3.out.u, HYC.out _ Z3.out.u⟩)
      (first
        | (refine step_appG rfl (.tmp 12) (.tmp 19) rfl V _ [] none rfl A0 c0 (xs.take 40) m0 rfl e0.out RA.out S0.out HN0.out (by simp; omega) ?_
           intro v1 w1 H1
           have Z1 := Lib.hid H1.out.alloc)
        | (refine step_appG rfl (.tmp 12) (.tmp 19) rfl V _ [] (some _) rfl A0 c0 (xs.take 40) m0 rfl e0.out RAz.out S0.out HN0.out (by simp; omega) ?_
           intro v1 w1 H1)
        | (refine step_appG rfl (.tmp 12) (.tmp 19) rfl V _ [] (some _) rfl A0 c0 (xs.take 40) m0 rfl e0.out RZ.out S0.out HN0.out (by simp; omega) ?_
           intro v1 w1 H1)
        | (refine step_appG rfl (.tmp 20) (.tmp 27) rfl V v1 ([] ++ xs.take 40) none rfl A1 c1 (ys.take 40) m1 rfl e1.out H1.out S1.out HN1.out (by rw [List.nil_append, ← e0.out, ← e1.out]; omega) ?_
           intro v3 w3 H3
           rw [List.nil_append, HL.out] at H3
           obtain ⟨A3, c3, h3, _⟩ := H3.out.own.sl
           subst h3
           have Z3 := Lib.hid H3.out.alloc
           have F3 := Lib.hid (H3.out.new rfl))
        | (refine step_appG rfl (.tmp 20) (.tmp 27) rfl V v1 ([] ++ xs.take 40) (some _) rfl A1 c1 (ys.take 40) m1 rfl e1.out H1.out S1.out HN1.out (by rw [List.nil_append, ← e0.out, ← e1.out]; omega) ?_
           intro v3 w3 H3
           rw [List.nil_append, HL.out] at H3
           obtain ⟨A3, c3, h3, _⟩ := H3.out.own.sl
           subst h3
           obtain ⟨q1, q2⟩ := H3.out.cellz
           have F3 := Lib.hid (H3.out.put rfl))
        | (refine step_appG rfl (.tmp 20) (.tmp 27) rfl V v1 ([] ++ xs.take 40) (some _) rfl A1 c1 (ys.take 40) m1 rfl e1.out Z1.out S1.out HN1.out (by rw [List.nil_append, ← e0.out, ← e1.out]; omega) ?_
           intro v3 w3 H3
           rw [List.nil_append, HL.out] at H3
           obtain ⟨A3, c3, h3, _⟩ := H3.out.own.sl
           subst h3
           obtain ⟨q1, q2⟩ := H3.out.cellz
           have F3 := Lib.hid (H3.out.put rfl)))
    all_goals (
      go_wp2_with fail
      go_meet
      exact ⟨_, _, _, rfl, F3⟩)
  case rest =>
  obtain ⟨g, A, c, rfl, HF⟩ := hcut
  rename World => W0
  clear B0 BZ RA RAz RZ S0 S1 e0 e1 HN0 HN1 HL hm0 hm1 z0 z1
  have C1 := Lib.hid (of_any HF.out.sl)
  have CP : Hid (∀ W, Below W0.heap.size W0 W → Calls Try.prog 19 #[.agg #[.slice A l.length c]] W fun e w' => ∃ A' c', e = .returned (.slice A' (prsT l (min l.length 80)).length c') ∧ SlR w' A' c' (prsT l (min l.length 80)) ∧ Below W.heap.size W w') := Lib.hid (fun W hW => pairs_any (HF.out.sl.below hW))
  rw [show min l.length 80 = l.length from by omega] at C1 CP
  have hln := prsT_len l l.length
  have hL80 : (prsT l l.length).length ≤ 80 := by omega
  have HLast : Hid (∀ i (h1 : i < ys.length), i < 40 → ys[i].key ≠ 0 → (∀ q (h : q < ys.length), i < q → q < 40 → ys[q].key ≠ ys[i].key) → hasK (prsT l l.length) ys[i].key = !ys[i].drop ∧ (ys[i].drop = false → valK (prsT l l.length) ys[i].key = ys[i].v)) := HLast0
  generalize prsT l l.length = L at *
  have x0 : W0.cell? ⟨g, 0, none⟩ = some (.slice A l.length c) := cell_of_row _ _ 0 _ 45 (0, 0) HF.out.box
  have XG : Hid (∀ W, Below W0.heap.size W0 W → W.cell? ⟨g, 0, none⟩ = some (.slice A l.length c)) := Lib.hid (fun W hW => cell_of_row _ _ 0 _ 45 (0, 0) ((hW.block g (heap_lt HF.out.box)).trans HF.out.box))
  clear hln
  go_wp2_with fail
  refine C1.out.mono ?_
  rintro e W1 ⟨b, rfl, h1⟩
  have H1 := Lib.hid h1
  have C2 := Lib.hid (CP.out W1 h1.u)
  have x1 := XG.out W1 h1.u
  clear h1 C1 CP x0 XG
  go_wp2_with fail
  refine C2.out.mono ?_
  rintro e W2 ⟨A2, c2, rfl, hs2, hb2⟩
  have H2 := Lib.hid (H1.out.next hb2)
  have C3 := Lib.hid (lm_same HS.out H2.out hL80 hs2 (Nat.le_refl 80) (by decide))
  clear hs2 hb2 C2 x1 H1 H2
  go_wp2_with fail
  refine C3.out.mono ?_
  rintro e W3 ⟨rfl, h3⟩
  have H3 : Hid (Lm V W3 b L 80) := Lib.hid (h3.base HF.out.u)
  clear h3 C3 HF HS hL80 hl80
  go_upto_block 0 with fail
  go_wp2_with fail
  go_loopw [7] (fun v wr => ∃ i : Nat, v = .int .i64 i ∧ i ≤ ys.length ∧ i ≤ 40 ∧ Hid (Lm V wr b L 80)) (fun v _ => 40 - (intOf v).toNat)
  case atStart => exact ⟨0, rfl, Nat.zero_le _, Nat.zero_le _, H3⟩
  case round =>
    clear H3
    obtain ⟨i, rfl, hi1, hi2, HI⟩ := hrel
    have x0 := HYC.out wr HI.out.u
    by_cases hlt : i < ys.length ∧ i < 40
    · obtain ⟨h1, h2⟩ := hlt
      have h3 : decide ((i : Int) < (ys.length : Int)) = true := by simp; omega
      have h4 : decide ((i : Int) < 40) = true := by simp; omega
      have hw : IntKind.i64.wrap ((i : Int) + 1) = ((i + 1 : Nat) : Int) := by rw [IntWalk.i64_in _ (by omega)]; rfl
      go_upto_block 2 with fail
      go_cut [8, 9] from 50 to 76 (fun s8 s9 wx => ∃ (f : Bool) (q9 : Int), s8 = .bool f ∧ s9 = .int .i64 q9 ∧ Hid (f = true ↔ ∀ q (h : q < ys.length), i < q → q < 40 → ys[q].key ≠ ys[i].key) ∧ Hid (Lm V wx b L 80))
      case first =>
        go_wp2_with fail
        rename World => wq
        go_loopw [8, 9] (fun v8 v9 wr => ∃ (f : Bool) (k : Nat), v8 = .bool f ∧ v9 = .int .i64 k ∧ i < k ∧ (k ≤ ys.length ∧ k ≤ 40) ∧ Hid (f = true ↔ ∀ q (h : q < ys.length), i < q → q < k → ys[q].key ≠ ys[i].key) ∧ Hid (Lm V wr b L 80)) (fun _ v9 _ => 40 - (intOf v9).toNat)
        case atStart => exact ⟨true, i + 1, rfl, rfl, by omega, ⟨by omega, by omega⟩, Lib.hid ⟨fun _ q _ h1 h2 => absurd h2 (by omega), fun _ => rfl⟩, HI⟩
        case round =>
          clear HI x0 h3 h4 hw
          obtain ⟨f, k, rfl, rfl, hik, hkk, HF1, HI2⟩ := hrel
          have x2 := HYC.out wr HI2.out.u
          by_cases hlk : k < ys.length ∧ k < 40
          · obtain ⟨hk1, hk2⟩ := hlk
            have h3 : decide ((k : Int) < (ys.length : Int)) = true := by simp; omega
            have h4 : decide ((k : Int) < 40) = true := by simp; omega
            have hw : IntKind.i64.wrap ((k : Int) + 1) = ((k + 1 : Nat) : Int) := by rw [IntWalk.i64_in _ (by omega)]; rfl
            have g1 : (k : Int) < (c1 : Int) := by omega
            have g2 : (i : Int) < (c1 : Int) := by omega
            obtain ⟨bb, o, rfl, hbb, e0, _, _⟩ := (HY.out.below HI2.out.u).rd k hk1
            obtain ⟨b2, o2, e2, _, e3, _, _⟩ := (HY.out.below HI2.out.u).rd i h1
            injection e2 with e2
            injection e2 with e4 e5
            subst e4 e5
            cases f with
            | false =>
              have HN : Hid (false = true ↔ ∀ q (h : q < ys.length), i < q → q < k + 1 → ys[q].key ≠ ys[i].key) := Lib.hid ⟨(fun h => by cases h), fun h => HF1.out.2 fun q hq h1 h2 => h q hq h1 (by omega)⟩
              clear HF1 hbb
              go_upto_region 12 with fail
              go_quiet (fail)
              go_wp2_with fail
              refine ⟨⟨false, k + 1, rfl, by go_num, by omega, ⟨by omega, by omega⟩, HN, Lib.hid (HI2.out.next (below_drewN _ _))⟩, ?_⟩
              simp [intOf]; omega
            | true =>
              obtain ⟨ka, hka⟩ : ∃ z, ys[k].key = z := ⟨_, rfl⟩
              obtain ⟨kb, hkb⟩ : ∃ z, ys[i].key = z := ⟨_, rfl⟩
              rw [hka] at e0
              rw [hkb] at e3
              have HN : Hid (decide (ka ≠ kb) = true ↔ ∀ q (h : q < ys.length), i < q → q < k + 1 → ys[q].key ≠ ys[i].key) := Lib.hid ⟨fun h q hq h1 h2 => by
                have h := of_decide_eq_true h
                rcases Nat.lt_or_eq_of_le (Nat.le_of_lt_succ h2) with h5 | h5
                · exact HF1.out.1 rfl q hq h1 h5
                · subst h5
                  rw [hka, hkb]
                  exact h, fun h => by
                have := h k hk1 hik (by omega)
                rw [hka, hkb] at this
                exact decide_eq_true this⟩
              clear HF1 hbb hka hkb
              go_upto_region 12 with fail
              by_cases hab : ka = kb
              · have hab2 : decide (ka = kb) = true := by simpa using hab
                subst hab
                go_quiet (fail)
                go_wp2_with fail
                refine ⟨⟨_, k + 1, rfl, by go_num, by omega, ⟨by omega, by omega⟩, by simpa using HN, Lib.hid (HI2.out.next (below_drewN _ _))⟩, ?_⟩
                simp [intOf]; omega
              · have hab2 : decide (ka = kb) = false := by simpa using hab
                have hab3 : (ka == kb) = false := by simpa using hab
                go_quiet (fail)
                go_wp2_with fail
                refine ⟨⟨_, k + 1, rfl, by go_num, by omega, ⟨by omega, by omega⟩, by simpa [hab] using HN, Lib.hid (HI2.out.next (below_drewN _ _))⟩, ?_⟩
                simp [intOf]; omega
          · have HQ : Hid (f = true ↔ ∀ q (h : q < ys.length), i < q → q < 40 → ys[q].key ≠ ys[i].key) := Lib.hid ⟨fun h q hq h1 h2 => HF1.out.1 h q hq h1 (by omega), fun h => HF1.out.2 fun q hq h1 h2 => h q hq h1 (by omega)⟩
            clear HF1
            by_cases hk1 : k < ys.length
            · have h3 : decide ((k : Int) < (ys.length : Int)) = true := by simp; omega
              have h4 : decide ((k : Int) < 40) = false := by simp; omega
              clear hlk
              go_wp2_with fail
              go_meet
              exact ⟨f, _, rfl, rfl, HQ, HI2⟩
            · have h3 : decide ((k : Int) < (ys.length : Int)) = false := by simp; omega
              clear hlk
              go_wp2_with fail
              go_meet
              exact ⟨f, _, rfl, rfl, HQ, HI2⟩
      case rest =>
      obtain ⟨f, q9, rfl, rfl, HQ, HI3⟩ := hcut
      rename World => wq
      clear HI x0
      have x0 := HYC.out wq HI3.out.u
      have g2 : (i : Int) < (c1 : Int) := by omega
      obtain ⟨bb, o, rfl, hbb, e0, e1, e2⟩ := (HY.out.below HI3.out.u).rd i h1
      clear hbb
      cases f with
      | false =>
        clear HQ e0 e1 e2
        go_wp2_with fail
        go_roundw
        case rel => exact ⟨i + 1, by go_num, by omega, by omega, HI3⟩
        case measure => simp [intOf]; omega
      | true =>
        obtain ⟨ka, hka⟩ : ∃ z, ys[i].key = z := ⟨_, rfl⟩
        by_cases hk0 : ka = 0
        · rw [hka, hk0] at e0
          clear HQ e1 e2 hka
          go_wp2_with fail
          go_roundw
          case rel => exact ⟨i + 1, by go_num, by omega, by omega, HI3⟩
          case measure => simp [intOf]; omega
        · have G := HLast.out i h1 h2 (by rw [hka]; exact hk0) (HQ.out.1 rfl)
          have hz : (ka == 0) = false := by simpa using hk0
          rw [hka] at G e0
          obtain ⟨vv, hv⟩ : ∃ z, ys[i].v = z := ⟨_, rfl⟩
          rw [hv] at G e1
          cases hd : ys[i].drop with
          | true =>
            rw [hd] at G e2
            obtain ⟨qv, hqv⟩ : ∃ z, valK L ka = z := ⟨_, rfl⟩
            have C4 : Hid (Calls Try.prog 15 #[.pointer (some ⟨b, 0, none⟩), .int .u64 ka] wq fun e w' => e = .returned (.tuple #[.int .i64 qv, .bool false]) ∧ Lm V w' b L 80) := Lib.hid (by
              have := lm_get HI3.out ka
              rwa [hqv, G.1] at this)
            clear HQ hka G hv hqv
            go_wp2_with fail
            refine C4.out.mono ?_
            rintro e W5 ⟨rfl, h5⟩
            have HI5 := Lib.hid h5
            have x5 := HYC.out W5 h5.u
            obtain ⟨b3, o3, e6, _, _, _, e7⟩ := (HY.out.below h5.u).rd i h1
            injection e6 with e6
            injection e6 with e8 e9
            subst e8 e9
            rw [hd] at e7
            clear h5 C4 HI3 x0 hd
            go_wp2_with fail
            go_roundw
            case rel => exact ⟨i + 1, by go_num, by omega, by omega, HI5⟩
            case measure => simp [intOf]; omega
          | false =>
            rw [hd] at G e2
            have C4 : Hid (Calls Try.prog 15 #[.pointer (some ⟨b, 0, none⟩), .int .u64 ka] wq fun e w' => e = .returned (.tuple #[.int .i64 vv, .bool true]) ∧ Lm V w' b L 80) := Lib.hid (by
              have := lm_get HI3.out ka
              rwa [G.2 rfl, G.1] at this)
            clear HQ hka G
            go_wp2_with fail
            refine C4.out.mono ?_
            rintro e W5 ⟨rfl, h5⟩
            have HI5 := Lib.hid h5
            have x5 := HYC.out W5 h5.u
            obtain ⟨b3, o3, e6, _, _, e5, e7⟩ := (HY.out.below h5.u).rd i h1
            injection e6 with e6
            injection e6 with e8 e9
            subst e8 e9
            rw [hd] at e7
            rw [hv] at e5
            clear h5 C4 HI3 x0 hd hv
            go_wp2_with fail
            go_roundw
            case rel => exact ⟨i + 1, by go_num, by omega, by omega, HI5⟩
            case measure => simp [intOf]; omega
    · have HU := Lib.hid (HB.out.trans (HI.out.u.mono HB.out.size))
      by_cases h1 : i < ys.length
      · have h3 : decide ((i : Int) < (ys.length : Int)) = true := by simp; omega
        have h4 : decide ((i : Int) < 40) = false := by simp; omega
        clear hlt HI
        go_wp2_with fail
        refine (HLv.out _).mono ?_
        rintro e W5 ⟨rfl, hb5⟩
        have HU2 := Lib.hid (HU.out.trans (hb5.mono HU.out.size))
        clear hb5
        go_wp2_with fail
        go_ret
        exact ⟨rfl, HU2.out⟩
      · have h3 : decide ((i : Int) < (ys.length : Int)) = false := by simp; omega
        clear hlt HI
        go_wp2_with fail
        refine (HLv.out _).mono ?_
        rintro e W5 ⟨rfl, hb5⟩
        have HU2 := Lib.hid (HU.out.trans (hb5.mono HU.out.size))
        clear hb5
        go_wp2_with fail
        go_ret
        exact ⟨rfl, HU2.out⟩
end Go.Proofs.Ytedekcphgcmlnaa
