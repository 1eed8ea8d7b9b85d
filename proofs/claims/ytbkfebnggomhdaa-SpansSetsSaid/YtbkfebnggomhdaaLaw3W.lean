/- The walk of the law SpansSets. -/
import Derived.Test.YtbkfebnggomhdaaT3Aux
namespace Go.Proofs.Ytbkfebnggomhdaa
open Go.RowKit
def LivesSaid3 : Prop := ∀ w : World, Calls Try.prog 9 #[] w fun e w' => e = .returned (.bool true) ∧ Below w.heap.size w w'
theorem keepS {w W W1 : World} {x y : Value} (h : W.cell? ⟨w.heap.size, 0, none⟩ = some x ∧ W.cell? ⟨w.heap.size + 1, 0, none⟩ = some y ∧ Below w.heap.size w W ∧ w.heap.size + 2 ≤ W.heap.size) (k : Below W.heap.size W W1) :
    W1.cell? ⟨w.heap.size, 0, none⟩ = some x ∧ W1.cell? ⟨w.heap.size + 1, 0, none⟩ = some y ∧ Below w.heap.size w W1 ∧ w.heap.size + 2 ≤ W1.heap.size :=
  ⟨(k.cell (p := ⟨w.heap.size, 0, none⟩) (by show w.heap.size < _; omega)).trans h.1, (k.cell (p := ⟨w.heap.size + 1, 0, none⟩) (by show w.heap.size + 1 < _; omega)).trans h.2.1, h.2.2.1.trans (k.mono (by omega)), Nat.le_trans h.2.2.2 k.size⟩
theorem keepT {w W W1 : World} {x y : Value} {D1 D2 : Option Addr} {L1 L2 : List Sp} (h : W.cell? ⟨w.heap.size, 0, none⟩ = some x ∧ W.cell? ⟨w.heap.size + 1, 0, none⟩ = some y ∧ Below w.heap.size w W ∧ w.heap.size + 2 ≤ W.heap.size ∧ Rd W W.heap.size D1 L1 ∧ Rd W W.heap.size D2 L2) (k : Below W.heap.size W W1) :
    W1.cell? ⟨w.heap.size, 0, none⟩ = some x ∧ W1.cell? ⟨w.heap.size + 1, 0, none⟩ = some y ∧ Below w.heap.size w W1 ∧ w.heap.size + 2 ≤ W1.heap.size ∧ Rd W1 W1.heap.size D1 L1 ∧ Rd W1 W1.heap.size D2 L2 := by
  obtain ⟨h1, h2, h3, h4, h5, h6⟩ := h
  obtain ⟨k1, k2, k3, k4⟩ := keepS ⟨h1, h2, h3, h4⟩ k
  exact ⟨k1, k2, k3, k4, h5.next k, h6.next k⟩
/-- what lies behind the two calls of Of -/
def Two (xs ys ps qs : List Bool) (w : World) (A B : Option Addr) (c d : Nat) (s5 s6 : Value) (wx : World) : Prop :=
  ∃ D1 e1 L1 D2 e2 L2, s5 = .slice D1 (L1 : List Sp).length e1 ∧ s6 = .slice D2 (L2 : List Sp).length e2 ∧ L1.length ≤ e1 ∧ L2.length ≤ e2 ∧ MkSet ps L1 ∧ MkSet qs L2 ∧ Rd wx wx.heap.size D1 L1 ∧ Rd wx wx.heap.size D2 L2 ∧
    wx.cell? ⟨w.heap.size, 0, none⟩ = some (.slice A xs.length c) ∧ wx.cell? ⟨w.heap.size + 1, 0, none⟩ = some (.slice B ys.length d) ∧ Below w.heap.size w wx ∧ w.heap.size + 2 ≤ wx.heap.size

set_option maxRecDepth 100000 in
set_option maxHeartbeats 4000000 in
theorem law3_any (hL : LivesSaid3) (A B : Option Addr) (c d : Nat) (xs ys ps qs : List Bool) (hps : xs.take 300 = ps) (hqs : ys.take 300 = qs) (w : World) (hrx : RdB w w.heap.size A xs) (hry : RdB w w.heap.size B ys) (hc : xs.length ≤ c) (hd : ys.length ≤ d) :
    Calls Try.prog 5 #[.agg #[.slice A xs.length c], .agg #[.slice B ys.length d]] w fun e w' => e = .returned (.bool true) ∧ Below w.heap.size w w' := by
  have HL := Lib.hid hL; clear hL
  have S1 : Hid (∀ W, RdB W W.heap.size A xs → Calls Try.prog 18 #[.agg #[.slice A xs.length c]] W fun e w' => ∃ B d L, e = .returned (.slice B L.length d) ∧ L.length ≤ d ∧ MkSet ps L ∧ Rd w' w'.heap.size B L ∧ Below W.heap.size W w') := fun W h => by subst hps; exact sOf_any A c xs W h hc
  have S2 : Hid (∀ W, RdB W W.heap.size B ys → Calls Try.prog 18 #[.agg #[.slice B ys.length d]] W fun e w' => ∃ B d L, e = .returned (.slice B L.length d) ∧ L.length ≤ d ∧ MkSet qs L ∧ Rd w' w'.heap.size B L ∧ Below W.heap.size W w') := fun W h => by subst hqs; exact sOf_any B d ys W h hd
  have M1 : Hid (∀ W, Calls Try.prog 19 #[.agg #[.slice A xs.length c]] W fun e w' => e = .returned (.slice A ps.length c) ∧ Below W.heap.size W w') := fun W => by subst hps; exact marks_any A c xs W hc
  have M2 : Hid (∀ W, Calls Try.prog 19 #[.agg #[.slice B ys.length d]] W fun e w' => e = .returned (.slice B qs.length d) ∧ Below W.heap.size W w') := fun W => by subst hqs; exact marks_any B d ys W hd
  have PX : Hid (∀ W, Below w.heap.size w W → RdB W W.heap.size A ps) := fun W h => by subst hps; exact ((hrx.below h).more h.size).take 300
  have PY : Hid (∀ W, Below w.heap.size w W → RdB W W.heap.size B qs) := fun W h => by subst hqs; exact ((hry.below h).more h.size).take 300
  have lpx : ps.length ≤ 300 := by subst hps; rw [List.length_take]; omega
  have lpy : qs.length ≤ 300 := by subst hqs; rw [List.length_take]; omega
  clear hps hqs
  have HX : Hid (∀ W, Below w.heap.size w W → RdB W W.heap.size A xs) := fun W h => (hrx.below h).more h.size
  have HY : Hid (∀ W, Below w.heap.size w W → RdB W W.heap.size B ys) := fun W h => (hry.below h).more h.size
  have hB0 : Below w.heap.size w ((w.alloc (.cells #[.slice A xs.length c] 41)).alloc (.cells #[.slice B ys.length d] 41)) := ((Below.refl _ w).alloc (Nat.le_refl _) _).alloc (by simp) _
  go_enter Try.func5, Try.ntmps5
  go_upto_region 1 with fail
  go_cut [5, 6] (fun s5 s6 wx => Two xs ys ps qs w A B c d s5 s6 wx)
  case first =>
    go_region_held3 (fun w' => w'.cell? ⟨w.heap.size, 0, none⟩ = some (.slice A xs.length c) ∧ w'.cell? ⟨w.heap.size + 1, 0, none⟩ = some (.slice B ys.length d) ∧ Below w.heap.size w w' ∧ w.heap.size + 2 ≤ w'.heap.size)
      (first
        | (refine ⟨?_, ?_, ?_, ?_⟩
           · simp [go_sem]
           · simp [go_sem]
           · exact hB0.drew
           · simp)
        | exact keepS (by assumption) k2
        | exact keepS (by assumption) k1
        | go_keep)
      (first
        | (go_at_call_of 18 (Value.agg #[Value.slice A xs.length c]); refine (S1.out _ ?_).mono ?_; (exact HX.out _ (‹_ ∧ _ ∧ Below w.heap.size w _ ∧ _›).2.2.1); rintro e w1 ⟨D1, e1, L1, rfl, hl1, hm1, hr1, k1⟩)
        | (go_at_call_of 18 (Value.agg #[Value.slice B ys.length d]); refine (S2.out _ ?_).mono ?_; (exact HY.out _ (‹_ ∧ _ ∧ Below w.heap.size w _ ∧ _›).2.2.1); rintro e w2 ⟨D2, e2, L2, rfl, hl2, hm2, hr2, k2⟩))
    all_goals (go_wp2_with fail; go_meet; exact ⟨D1, e1, L1, D2, e2, L2, rfl, rfl, hl1, hl2, hm1, hm2, hr1.next k2, hr2, (by first | assumption | exact keepS (by assumption) k2)⟩)
  case rest =>
    obtain ⟨D1, e1, L1, D2, e2, L2, rfl, rfl, hl1, hl2, hm1, hm2, hr1, hr2, hc1, hc2, hbw, hsz⟩ := hcut
    go_upto_region 2 with fail
    go_cut [7, 8] (fun s7 s8 wx => s7 = .slice A ps.length c ∧ s8 = .slice B qs.length d ∧ Rd wx wx.heap.size D1 L1 ∧ Rd wx wx.heap.size D2 L2 ∧ Below w.heap.size w wx)
    case first =>
      go_region_held3 (fun w' => w'.cell? ⟨w.heap.size, 0, none⟩ = some (.slice A xs.length c) ∧ w'.cell? ⟨w.heap.size + 1, 0, none⟩ = some (.slice B ys.length d) ∧ Below w.heap.size w w' ∧ w.heap.size + 2 ≤ w'.heap.size ∧ Rd w' w'.heap.size D1 L1 ∧ Rd w' w'.heap.size D2 L2)
        (first
          | exact ⟨hc1, hc2, hbw.drew, hsz, hr1, hr2⟩
          | exact keepT (by assumption) k2
          | exact keepT (by assumption) k1
          | go_keep)
        (first
          | (go_at_call_of 19 (Value.agg #[Value.slice A xs.length c]); refine (M1.out _).mono ?_; rintro e w1 ⟨rfl, k1⟩)
          | (go_at_call_of 19 (Value.agg #[Value.slice B ys.length d]); refine (M2.out _).mono ?_; rintro e w2 ⟨rfl, k2⟩))
      all_goals (go_wp2_with fail; go_meet; exact ⟨rfl, rfl, (‹_ ∧ _ ∧ Below w.heap.size w w2 ∧ _ ∧ Rd w2 w2.heap.size D1 L1 ∧ _›).2.2.2.2.1, (‹_ ∧ _ ∧ Below w.heap.size w w2 ∧ _ ∧ Rd w2 w2.heap.size D1 L1 ∧ _›).2.2.2.2.2, (‹_ ∧ _ ∧ Below w.heap.size w w2 ∧ _ ∧ Rd w2 w2.heap.size D1 L1 ∧ _›).2.2.1⟩)
    case rest =>
      obtain ⟨rfl, rfl, hr3, hr4, hbw2⟩ := hcut
      have hpx := PX.out wc hbw2
      have hpy := PY.out wc hbw2
      clear hc1 hc2 hsz hr1 hr2 hbw HX HY hrx hry hB0 hc hd S1 S2 M1 M2 PX PY
      go_upto_region 3 with fail
      go_cut [9] (fun s9 wx => ∃ n : Nat, s9 = .int .i64 n ∧ ps.length ≤ n ∧ qs.length ≤ n ∧ n ≤ 300 ∧ wx = wc)
      case first =>
        rcases Int.lt_or_le (ps.length : Int) (qs.length : Int) with hh | hh
        · go_wp2_with fail
          go_meet
          exact ⟨qs.length, rfl, by omega, Nat.le_refl _, lpy, rfl⟩
        · go_wp2_with fail
          go_meet
          exact ⟨ps.length, rfl, Nat.le_refl _, by omega, lpx, rfl⟩
      case rest =>
        obtain ⟨n, rfl, hpn, hqn, hn, rfl⟩ := hcut
        have lm1 := hm1.len
        have lm2 := hm2.len
        have HM1 := Lib.hid hm1
        have HM2 := Lib.hid hm2
        clear hm1 hm2
        go_wp2_with fail
        go_loopw [10, 11, 12, 13] (fun u1 u2 u3 ui wr => ∃ k : Nat, ui = .int .i64 k ∧ k ≤ n ∧ Three wr wc.heap.size u1 u2 u3 (opM (fun x y => x || y) ps qs k) (opM (fun x y => x && y) ps qs k) (opM (fun x y => x && !y) ps qs k) ∧ Below wc.heap.size wc wr) (fun _ _ _ ui _ => n - (intOf ui).toNat)
        case atStart => exact ⟨0, rfl, Nat.zero_le _, Three.start _ _, Below.refl _ _⟩
        case round =>
          obtain ⟨k, rfl, hk, ht, hbr⟩ := hrel
          by_cases hlt : k < n
          · have hszr := hbr.size
            go_upto_region 8 with fail
            go_cut [14, 15] (fun s14 s15 wx => s14 = .bool (ps.getD k false) ∧ s15 = .bool (qs.getD k false) ∧ ∃ j, wx = wr.drewN j)
            case first =>
              have hi0 : (0 : Int) ≤ (k : Int) := Int.natCast_nonneg _
              by_cases hp : k < ps.length
              · have hpx' := hpx.below hbr
                obtain ⟨bP, oP, hAP, hblP, cP⟩ := hpx' k hp
                have gP : Hid (ps.getD k false = ps[k]) := by show _ = _; simp [List.getD, List.getElem?_eq_getElem hp]
                generalize ps[k] = xP at *
                subst hAP
                have dP : decide (k < ps.length) = true := by simpa using hp
                have dP' : decide ((k : Int) < (ps.length : Int)) = true := by simp; omega
                have iP : (k : Int) < (ps.length : Int) := by omega
                by_cases hq : k < qs.length
                · have hpy' := hpy.below hbr
                  obtain ⟨bQ, oQ, hAQ, hblQ, cQ⟩ := hpy' k hq
                  have gQ : Hid (qs.getD k false = qs[k]) := by show _ = _; simp [List.getD, List.getElem?_eq_getElem hq]
                  generalize qs[k] = xQ at *
                  subst hAQ
                  have dQ : decide (k < qs.length) = true := by simpa using hq
                  have dQ' : decide ((k : Int) < (qs.length : Int)) = true := by simp; omega
                  have iQ : (k : Int) < (qs.length : Int) := by omega
                  clear hp hq
                  go_quiet (fail)
                  go_wp2_with fail
                  go_meet
                  exact ⟨by rw [gP.out], by rw [gQ.out], _, rfl⟩
                · have gQ : Hid (qs.getD k false = false) := getD_big (by omega)
                  have dQ : decide (k < qs.length) = false := by simp; omega
                  have dQ' : decide ((k : Int) < (qs.length : Int)) = false := by simp; omega
                  clear hp hq
                  go_quiet (fail)
                  go_wp2_with fail
                  go_meet
                  exact ⟨by rw [gP.out], by rw [gQ.out], _, rfl⟩
              · have gP : Hid (ps.getD k false = false) := getD_big (by omega)
                have dP : decide (k < ps.length) = false := by simp; omega
                have dP' : decide ((k : Int) < (ps.length : Int)) = false := by simp; omega
                by_cases hq : k < qs.length
                · have hpy' := hpy.below hbr
                  obtain ⟨bQ, oQ, hAQ, hblQ, cQ⟩ := hpy' k hq
                  have gQ : Hid (qs.getD k false = qs[k]) := by show _ = _; simp [List.getD, List.getElem?_eq_getElem hq]
                  generalize qs[k] = xQ at *
                  subst hAQ
                  have dQ : decide (k < qs.length) = true := by simpa using hq
                  have dQ' : decide ((k : Int) < (qs.length : Int)) = true := by simp; omega
                  have iQ : (k : Int) < (qs.length : Int) := by omega
                  clear hp hq
                  go_quiet (fail)
                  go_wp2_with fail
                  go_meet
                  exact ⟨by rw [gP.out], by rw [gQ.out], _, rfl⟩
                · have gQ : Hid (qs.getD k false = false) := getD_big (by omega)
                  have dQ : decide (k < qs.length) = false := by simp; omega
                  have dQ' : decide ((k : Int) < (qs.length : Int)) = false := by simp; omega
                  clear hp hq
                  go_quiet (fail)
                  go_wp2_with fail
                  go_meet
                  exact ⟨by rw [gP.out], by rw [gQ.out], _, rfl⟩
            case rest =>
              obtain ⟨rfl, rfl, j, rfl⟩ := hcut
              have hbj : Below wc.heap.size wc (wr.drewN j) := below_drewN hbr j
              have htj := ht.drewN j
              have hszj : wc.heap.size ≤ (wr.drewN j).heap.size := hszr
              have t1 := Lib.hid (opM_succ (fun x y => x || y) ps qs k)
              have t2 := Lib.hid (opM_succ (fun x y => x && y) ps qs k)
              have t3 := Lib.hid (opM_succ (fun x y => x && !y) ps qs k)
              have n1 := Lib.hid (opM_len (fun x y => x || y) ps qs k)
              have n2 := Lib.hid (opM_len (fun x y => x && y) ps qs k)
              have n3 := Lib.hid (opM_len (fun x y => x && !y) ps qs k)
              clear ht hbr hszr
              generalize wr.drewN j = wj at *
              generalize opM (fun x y => x || y) ps qs k = l1 at *
              generalize opM (fun x y => x && y) ps qs k = l2 at *
              generalize opM (fun x y => x && !y) ps qs k = l3 at *
              generalize ps.getD k false = xP at *
              generalize qs.getD k false = xQ at *
              have q1 : l1.length ≤ 300 := by rw [n1.out]; omega
              have q2 : l2.length ≤ 300 := by rw [n2.out]; omega
              have q3 : l3.length ≤ 300 := by rw [n3.out]; omega
              obtain ⟨i0, hi0', hz0, hz1, hz2⟩ := info_parts Try.info4
              clear lm1 lm2 HM1 HM2 hr3 hr4 hpx hpy n1 n2 n3
              cases xP <;> cases xQ
              · go_wp2_with (first
                  | (at_builtin
                     refine wpList_append_lies _ rfl (.tmp 66) (.tmp 71) _ rfl wc.heap.size 4 i0 (.bool false) 1 1 Try.underlying39 hi0' hz0 hz1 hz2 rfl (by omega) u10 l1.length (bl l1) rfl (World.ownsRow.alloc htj.o1 _)
                       ⟨wj.heap.size, 0, none⟩ 1 1 [.bool false] rfl rfl (World.news_of_block (cs := #[.bool false]) (t := 4) (fr := (0, 0)) (heap_alloc_new wj _)) (by simp [Value.oneCell'])
                       (by omega) (by simp [maxLen]; omega) (by omega) (by simp; omega) (wj.heap.size + 1) (by simp) ?_
                     intro g1 c1 w1 hown hgrow hat hlt1
                     have ht1 := (htj.step hown hgrow hat).rot
                     have hb1 := htj.below hgrow hbj hszj (Nat.le_refl _)
                     have sz1 := hb1.size
                     clear hown hgrow hat hlt1)
                  | (at_builtin
                     refine wpList_append_lies _ rfl (.tmp 73) (.tmp 78) _ rfl wc.heap.size 4 i0 (.bool false) 1 1 Try.underlying39 hi0' hz0 hz1 hz2 rfl (by omega) u11 l2.length (bl l2) rfl (World.ownsRow.alloc ht1.o1 _)
                       ⟨w1.heap.size, 0, none⟩ 1 1 [.bool false] rfl rfl (World.news_of_block (cs := #[.bool false]) (t := 4) (fr := (0, 0)) (heap_alloc_new w1 _)) (by simp [Value.oneCell'])
                       (by omega) (by simp [maxLen]; omega) (by omega) (by simp; omega) (w1.heap.size + 1) (by simp) ?_
                     intro g2 c2 w2 hown hgrow hat hlt1
                     have ht2 := (ht1.step hown hgrow hat).rot
                     have hb2 := ht1.below hgrow hb1 sz1 (Nat.le_refl _)
                     have sz2 := hb2.size
                     clear hown hgrow hat hlt1)
                  | (at_builtin
                     refine wpList_append_lies _ rfl (.tmp 80) (.tmp 86) _ rfl wc.heap.size 4 i0 (.bool false) 1 1 Try.underlying39 hi0' hz0 hz1 hz2 rfl (by omega) u12 l3.length (bl l3) rfl (World.ownsRow.alloc ht2.o1 _)
                       ⟨w2.heap.size, 0, none⟩ 1 1 [.bool false] rfl rfl (World.news_of_block (cs := #[.bool false]) (t := 4) (fr := (0, 0)) (heap_alloc_new w2 _)) (by simp [Value.oneCell'])
                       (by omega) (by simp [maxLen]; omega) (by omega) (by simp; omega) (w2.heap.size + 1) (by simp) ?_
                     intro g3 c3 w3 hown hgrow hat hlt1
                     have ht3 := (ht2.step hown hgrow hat).rot
                     have hb3 := ht2.below hgrow hb2 sz2 (Nat.le_refl _)
                     have sz3 := hb3.size
                     clear hown hgrow hat hlt1))
                go_roundw
                case rel => exact ⟨k + 1, by go_num, by omega, by rw [t1.out, t2.out, t3.out]; exact ht3, hb3⟩
                case measure => simp [intOf]; omega
              · go_wp2_with (first
                  | (at_builtin
                     refine wpList_append_lies _ rfl (.tmp 66) (.tmp 71) _ rfl wc.heap.size 4 i0 (.bool false) 1 1 Try.underlying39 hi0' hz0 hz1 hz2 rfl (by omega) u10 l1.length (bl l1) rfl (World.ownsRow.alloc htj.o1 _)
                       ⟨wj.heap.size, 0, none⟩ 1 1 [.bool true] rfl rfl (World.news_of_block (cs := #[.bool true]) (t := 4) (fr := (0, 0)) (heap_alloc_new wj _)) (by simp [Value.oneCell'])
                       (by omega) (by simp [maxLen]; omega) (by omega) (by simp; omega) (wj.heap.size + 1) (by simp) ?_
                     intro g1 c1 w1 hown hgrow hat hlt1
                     have ht1 := (htj.step hown hgrow hat).rot
                     have hb1 := htj.below hgrow hbj hszj (Nat.le_refl _)
                     have sz1 := hb1.size
                     clear hown hgrow hat hlt1)
                  | (at_builtin
                     refine wpList_append_lies _ rfl (.tmp 73) (.tmp 78) _ rfl wc.heap.size 4 i0 (.bool false) 1 1 Try.underlying39 hi0' hz0 hz1 hz2 rfl (by omega) u11 l2.length (bl l2) rfl (World.ownsRow.alloc ht1.o1 _)
                       ⟨w1.heap.size, 0, none⟩ 1 1 [.bool false] rfl rfl (World.news_of_block (cs := #[.bool false]) (t := 4) (fr := (0, 0)) (heap_alloc_new w1 _)) (by simp [Value.oneCell'])
                       (by omega) (by simp [maxLen]; omega) (by omega) (by simp; omega) (w1.heap.size + 1) (by simp) ?_
                     intro g2 c2 w2 hown hgrow hat hlt1
                     have ht2 := (ht1.step hown hgrow hat).rot
                     have hb2 := ht1.below hgrow hb1 sz1 (Nat.le_refl _)
                     have sz2 := hb2.size
                     clear hown hgrow hat hlt1)
                  | (at_builtin
                     refine wpList_append_lies _ rfl (.tmp 80) (.tmp 86) _ rfl wc.heap.size 4 i0 (.bool false) 1 1 Try.underlying39 hi0' hz0 hz1 hz2 rfl (by omega) u12 l3.length (bl l3) rfl (World.ownsRow.alloc ht2.o1 _)
                       ⟨w2.heap.size, 0, none⟩ 1 1 [.bool false] rfl rfl (World.news_of_block (cs := #[.bool false]) (t := 4) (fr := (0, 0)) (heap_alloc_new w2 _)) (by simp [Value.oneCell'])
                       (by omega) (by simp [maxLen]; omega) (by omega) (by simp; omega) (w2.heap.size + 1) (by simp) ?_
                     intro g3 c3 w3 hown hgrow hat hlt1
                     have ht3 := (ht2.step hown hgrow hat).rot
                     have hb3 := ht2.below hgrow hb2 sz2 (Nat.le_refl _)
                     have sz3 := hb3.size
                     clear hown hgrow hat hlt1))
                go_roundw
                case rel => exact ⟨k + 1, by go_num, by omega, by rw [t1.out, t2.out, t3.out]; exact ht3, hb3⟩
                case measure => simp [intOf]; omega
              · go_wp2_with (first
                  | (at_builtin
                     refine wpList_append_lies _ rfl (.tmp 66) (.tmp 71) _ rfl wc.heap.size 4 i0 (.bool false) 1 1 Try.underlying39 hi0' hz0 hz1 hz2 rfl (by omega) u10 l1.length (bl l1) rfl (World.ownsRow.alloc htj.o1 _)
                       ⟨wj.heap.size, 0, none⟩ 1 1 [.bool true] rfl rfl (World.news_of_block (cs := #[.bool true]) (t := 4) (fr := (0, 0)) (heap_alloc_new wj _)) (by simp [Value.oneCell'])
                       (by omega) (by simp [maxLen]; omega) (by omega) (by simp; omega) (wj.heap.size + 1) (by simp) ?_
                     intro g1 c1 w1 hown hgrow hat hlt1
                     have ht1 := (htj.step hown hgrow hat).rot
                     have hb1 := htj.below hgrow hbj hszj (Nat.le_refl _)
                     have sz1 := hb1.size
                     clear hown hgrow hat hlt1)
                  | (at_builtin
                     refine wpList_append_lies _ rfl (.tmp 73) (.tmp 78) _ rfl wc.heap.size 4 i0 (.bool false) 1 1 Try.underlying39 hi0' hz0 hz1 hz2 rfl (by omega) u11 l2.length (bl l2) rfl (World.ownsRow.alloc ht1.o1 _)
                       ⟨w1.heap.size, 0, none⟩ 1 1 [.bool false] rfl rfl (World.news_of_block (cs := #[.bool false]) (t := 4) (fr := (0, 0)) (heap_alloc_new w1 _)) (by simp [Value.oneCell'])
                       (by omega) (by simp [maxLen]; omega) (by omega) (by simp; omega) (w1.heap.size + 1) (by simp) ?_
                     intro g2 c2 w2 hown hgrow hat hlt1
                     have ht2 := (ht1.step hown hgrow hat).rot
                     have hb2 := ht1.below hgrow hb1 sz1 (Nat.le_refl _)
                     have sz2 := hb2.size
                     clear hown hgrow hat hlt1)
                  | (at_builtin
                     refine wpList_append_lies _ rfl (.tmp 80) (.tmp 86) _ rfl wc.heap.size 4 i0 (.bool false) 1 1 Try.underlying39 hi0' hz0 hz1 hz2 rfl (by omega) u12 l3.length (bl l3) rfl (World.ownsRow.alloc ht2.o1 _)
                       ⟨w2.heap.size, 0, none⟩ 1 1 [.bool true] rfl rfl (World.news_of_block (cs := #[.bool true]) (t := 4) (fr := (0, 0)) (heap_alloc_new w2 _)) (by simp [Value.oneCell'])
                       (by omega) (by simp [maxLen]; omega) (by omega) (by simp; omega) (w2.heap.size + 1) (by simp) ?_
                     intro g3 c3 w3 hown hgrow hat hlt1
                     have ht3 := (ht2.step hown hgrow hat).rot
                     have hb3 := ht2.below hgrow hb2 sz2 (Nat.le_refl _)
                     have sz3 := hb3.size
                     clear hown hgrow hat hlt1))
                go_roundw
                case rel => exact ⟨k + 1, by go_num, by omega, by rw [t1.out, t2.out, t3.out]; exact ht3, hb3⟩
                case measure => simp [intOf]; omega
              · go_wp2_with (first
                  | (at_builtin
                     refine wpList_append_lies _ rfl (.tmp 66) (.tmp 71) _ rfl wc.heap.size 4 i0 (.bool false) 1 1 Try.underlying39 hi0' hz0 hz1 hz2 rfl (by omega) u10 l1.length (bl l1) rfl (World.ownsRow.alloc htj.o1 _)
                       ⟨wj.heap.size, 0, none⟩ 1 1 [.bool true] rfl rfl (World.news_of_block (cs := #[.bool true]) (t := 4) (fr := (0, 0)) (heap_alloc_new wj _)) (by simp [Value.oneCell'])
                       (by omega) (by simp [maxLen]; omega) (by omega) (by simp; omega) (wj.heap.size + 1) (by simp) ?_
                     intro g1 c1 w1 hown hgrow hat hlt1
                     have ht1 := (htj.step hown hgrow hat).rot
                     have hb1 := htj.below hgrow hbj hszj (Nat.le_refl _)
                     have sz1 := hb1.size
                     clear hown hgrow hat hlt1)
                  | (at_builtin
                     refine wpList_append_lies _ rfl (.tmp 73) (.tmp 78) _ rfl wc.heap.size 4 i0 (.bool false) 1 1 Try.underlying39 hi0' hz0 hz1 hz2 rfl (by omega) u11 l2.length (bl l2) rfl (World.ownsRow.alloc ht1.o1 _)
                       ⟨w1.heap.size, 0, none⟩ 1 1 [.bool true] rfl rfl (World.news_of_block (cs := #[.bool true]) (t := 4) (fr := (0, 0)) (heap_alloc_new w1 _)) (by simp [Value.oneCell'])
                       (by omega) (by simp [maxLen]; omega) (by omega) (by simp; omega) (w1.heap.size + 1) (by simp) ?_
                     intro g2 c2 w2 hown hgrow hat hlt1
                     have ht2 := (ht1.step hown hgrow hat).rot
                     have hb2 := ht1.below hgrow hb1 sz1 (Nat.le_refl _)
                     have sz2 := hb2.size
                     clear hown hgrow hat hlt1)
                  | (at_builtin
                     refine wpList_append_lies _ rfl (.tmp 80) (.tmp 86) _ rfl wc.heap.size 4 i0 (.bool false) 1 1 Try.underlying39 hi0' hz0 hz1 hz2 rfl (by omega) u12 l3.length (bl l3) rfl (World.ownsRow.alloc ht2.o1 _)
                       ⟨w2.heap.size, 0, none⟩ 1 1 [.bool false] rfl rfl (World.news_of_block (cs := #[.bool false]) (t := 4) (fr := (0, 0)) (heap_alloc_new w2 _)) (by simp [Value.oneCell'])
                       (by omega) (by simp [maxLen]; omega) (by omega) (by simp; omega) (w2.heap.size + 1) (by simp) ?_
                     intro g3 c3 w3 hown hgrow hat hlt1
                     have ht3 := (ht2.step hown hgrow hat).rot
                     have hb3 := ht2.below hgrow hb2 sz2 (Nat.le_refl _)
                     have sz3 := hb3.size
                     clear hown hgrow hat hlt1))
                go_roundw
                case rel => exact ⟨k + 1, by go_num, by omega, by rw [t1.out, t2.out, t3.out]; exact ht3, hb3⟩
                case measure => simp [intOf]; omega
          · have hkn : k = n := by omega
            subst hkn
            have s1 : ∀ i, mkd (opM (fun x y => x || y) ps qs k) i = (mkd ps i || mkd qs i) := opM_mk rfl ps qs hpn hqn
            have s2 : ∀ i, mkd (opM (fun x y => x && y) ps qs k) i = (mkd ps i && mkd qs i) := opM_mk rfl ps qs hpn hqn
            have s3 : ∀ i, mkd (opM (fun x y => x && !y) ps qs k) i = (mkd ps i && !mkd qs i) := opM_mk rfl ps qs hpn hqn
            have z1 := opM_len (fun x y => x || y) ps qs k
            have z2 := opM_len (fun x y => x && y) ps qs k
            have z3 := opM_len (fun x y => x && !y) ps qs k
            generalize opM (fun x y => x || y) ps qs k = l1 at *
            generalize opM (fun x y => x && y) ps qs k = l2 at *
            generalize opM (fun x y => x && !y) ps qs k = l3 at *
            obtain ⟨B1, c1, rfl, f1, m1⟩ := ht.o1.rd
            obtain ⟨B2, c2, rfl, f2, m2⟩ := ht.o2.rd
            obtain ⟨B3, c3, rfl, f3, m3⟩ := ht.o3.rd
            obtain ⟨Lu, gu⟩ := mkset_ex l1 (by omega)
            obtain ⟨Lc, gc⟩ := mkset_ex l2 (by omega)
            obtain ⟨Lw, gw⟩ := mkset_ex l3 (by omega)
            have y1 := gu.len
            have y2 := gc.len
            have y3 := gw.len
            have q1 : l1.length ≤ 1000 := by omega
            have q2 : l2.length ≤ 1000 := by omega
            have q3 : l3.length ≤ 1000 := by omega
            have lu : Lu.length ≤ 4096 := by omega
            have lc : Lc.length ≤ 4096 := by omega
            have lw : Lw.length ≤ 4096 := by omega
            have la : L1.length ≤ 4096 := by omega
            have lb : L2.length ≤ 4096 := by omega
            have SS : Sets3 L1 L2 Lu Lc Lw := ⟨HM1.out.1, HM2.out.1, gu.1, gc.1, gw.1, fun i => by rw [gu.2, s1, HM1.out.2, HM2.out.2], fun i => by rw [gc.2, s2, HM1.out.2, HM2.out.2], fun i => by rw [gw.2, s3, HM1.out.2, HM2.out.2]⟩
            have T1 : Hid (∀ A c W, RdB W W.heap.size A l1 → Calls Try.prog 23 #[.slice A l1.length c] W fun e w' => ∃ B d, e = .returned (.slice B Lu.length d) ∧ Lu.length ≤ d ∧ Rd w' w'.heap.size B Lu ∧ Below W.heap.size W w') := fun A c W h => refSp gu q1 h rfl
            have T2 : Hid (∀ A c W, RdB W W.heap.size A l2 → Calls Try.prog 23 #[.slice A l2.length c] W fun e w' => ∃ B d, e = .returned (.slice B Lc.length d) ∧ Lc.length ≤ d ∧ Rd w' w'.heap.size B Lc ∧ Below W.heap.size W w') := fun A c W h => refSp gc q2 h rfl
            have T3 : Hid (∀ A c W, RdB W W.heap.size A l3 → Calls Try.prog 23 #[.slice A l3.length c] W fun e w' => ∃ B d, e = .returned (.slice B Lw.length d) ∧ Lw.length ≤ d ∧ Rd w' w'.heap.size B Lw ∧ Below W.heap.size W w') := fun A c W h => refSp gw q3 h rfl
            have b1 := cnt_bd SS.v1 la
            have b2 := cnt_bd SS.v2 lb
            have b3 := cnt_bd SS.vc lc
            have CU : Hid (cnt Lu = cnt L1 + cnt L2 - cnt Lc) := cnt_union SS.v1 SS.v2 SS.vu SS.vc la lb lu lc SS.hu SS.hc
            have ra : Rd wr wr.heap.size D1 L1 := (hr3.below hbr).more hbr.size
            have rb : Rd wr wr.heap.size D2 L2 := (hr4.below hbr).more hbr.size
            have hb : Below w.heap.size w wr := hbw2.trans (hbr.mono hbw2.size)
            clear s1 s2 s3 z1 z2 z3 gu gc gw y1 y2 y3 q1 q2 q3 lm1 lm2 HM1 HM2 hr3 hr4 hbr hbw2 ht hpx hpy hpn hqn lpx lpy hk
            go_wp2_with fail
            refine (op_at union_any L1 L2 Lu ra rb (by rfl) (by rfl) hl1 hl2 (by omega) (by omega) (chk2_0 SS.v1 SS.v2 la lb) SS.vu (fun i => (SS.hu i).symm) lu (by rfl)).mono ?_
            rintro e x1 ⟨Eru, rfl, ru, k1⟩
            replace ra := ra.next k1
            replace rb := rb.next k1
            replace m1 := m1.next k1
            replace m2 := m2.next k1
            replace m3 := m3.next k1
            replace hb := hb.trans (k1.mono hb.size)
            clear k1
            go_wp2_with fail
            refine (op_at common_any L1 L2 Lc ra rb (by rfl) (by rfl) hl1 hl2 (by omega) (by omega) (chk2_0 SS.v1 SS.v2 la lb) SS.vc (fun i => (SS.hc i).symm) lc (by rfl)).mono ?_
            rintro e x2 ⟨Erc, rfl, rc, k2⟩
            replace ra := ra.next k2
            replace rb := rb.next k2
            replace m1 := m1.next k2
            replace m2 := m2.next k2
            replace m3 := m3.next k2
            replace ru := ru.next k2
            replace hb := hb.trans (k2.mono hb.size)
            clear k2
            go_wp2_with fail
            refine (op_at without_any L1 L2 Lw ra rb (by rfl) (by rfl) hl1 hl2 (by omega) (by omega) (chk2_0 SS.v1 SS.v2 la lb) SS.vw (fun i => (SS.hw i).symm) lw (by rfl)).mono ?_
            rintro e x3 ⟨Erw, rfl, rw, k3⟩
            replace ra := ra.next k3
            replace rb := rb.next k3
            replace m1 := m1.next k3
            replace m2 := m2.next k3
            replace m3 := m3.next k3
            replace ru := ru.next k3
            replace rc := rc.next k3
            replace hb := hb.trans (k3.mono hb.size)
            clear k3
            go_wp2_with fail
            refine (op_at union_any L2 L1 Lu rb ra (by rfl) (by rfl) hl2 hl1 (by omega) (by omega) (chk2_0 SS.v2 SS.v1 lb la) SS.vu (fun i => by rw [SS.hu i, Bool.or_comm]) lu (by rfl)).mono ?_
            rintro e x4 ⟨Erv, rfl, rv, k4⟩
            replace ra := ra.next k4
            replace rb := rb.next k4
            replace m1 := m1.next k4
            replace m2 := m2.next k4
            replace m3 := m3.next k4
            replace ru := ru.next k4
            replace rc := rc.next k4
            replace rw := rw.next k4
            replace hb := hb.trans (k4.mono hb.size)
            clear k4
            go_wp2_with fail
            refine (op_at common_any L2 L1 Lc rb ra (by rfl) (by rfl) hl2 hl1 (by omega) (by omega) (chk2_0 SS.v2 SS.v1 lb la) SS.vc (fun i => by rw [SS.hc i, Bool.and_comm]) lc (by rfl)).mono ?_
            rintro e x5 ⟨Erd, rfl, rd, k5⟩
            replace ra := ra.next k5
            replace rb := rb.next k5
            replace m1 := m1.next k5
            replace m2 := m2.next k5
            replace m3 := m3.next k5
            replace ru := ru.next k5
            replace rc := rc.next k5
            replace rw := rw.next k5
            replace rv := rv.next k5
            replace hb := hb.trans (k5.mono hb.size)
            clear k5
            go_wp2_with fail
            refine (T1.out _ _ _ m1).mono ?_
            rintro e x6 ⟨PT1, dT1, rfl, fT1, rT1, k6⟩
            replace ra := ra.next k6
            replace rb := rb.next k6
            replace m1 := m1.next k6
            replace m2 := m2.next k6
            replace m3 := m3.next k6
            replace ru := ru.next k6
            replace rc := rc.next k6
            replace rw := rw.next k6
            replace rv := rv.next k6
            replace rd := rd.next k6
            replace hb := hb.trans (k6.mono hb.size)
            clear k6
            go_wp2_with fail
            refine (sameAt Lu ru rT1 (by rfl) (by omega)).mono ?_
            rintro e x7 ⟨rfl, k7⟩
            replace ra := ra.next k7
            replace rb := rb.next k7
            replace m1 := m1.next k7
            replace m2 := m2.next k7
            replace m3 := m3.next k7
            replace ru := ru.next k7
            replace rc := rc.next k7
            replace rw := rw.next k7
            replace rv := rv.next k7
            replace rd := rd.next k7
            replace rT1 := rT1.next k7
            replace hb := hb.trans (k7.mono hb.size)
            clear k7
            clear rT1 fT1
            go_wp2_with fail
            refine (T2.out _ _ _ m2).mono ?_
            rintro e x8 ⟨PT2, dT2, rfl, fT2, rT2, k8⟩
            replace ra := ra.next k8
            replace rb := rb.next k8
            replace m1 := m1.next k8
            replace m2 := m2.next k8
            replace m3 := m3.next k8
            replace ru := ru.next k8
            replace rc := rc.next k8
            replace rw := rw.next k8
            replace rv := rv.next k8
            replace rd := rd.next k8
            replace hb := hb.trans (k8.mono hb.size)
            clear k8
            go_wp2_with fail
            refine (sameAt Lc rc rT2 (by rfl) (by omega)).mono ?_
            rintro e x9 ⟨rfl, k9⟩
            replace ra := ra.next k9
            replace rb := rb.next k9
            replace m1 := m1.next k9
            replace m2 := m2.next k9
            replace m3 := m3.next k9
            replace ru := ru.next k9
            replace rc := rc.next k9
            replace rw := rw.next k9
            replace rv := rv.next k9
            replace rd := rd.next k9
            replace rT2 := rT2.next k9
            replace hb := hb.trans (k9.mono hb.size)
            clear k9
            clear rT2 fT2
            go_wp2_with fail
            refine (T3.out _ _ _ m3).mono ?_
            rintro e x10 ⟨PT3, dT3, rfl, fT3, rT3, k10⟩
            replace ra := ra.next k10
            replace rb := rb.next k10
            replace m1 := m1.next k10
            replace m2 := m2.next k10
            replace m3 := m3.next k10
            replace ru := ru.next k10
            replace rc := rc.next k10
            replace rw := rw.next k10
            replace rv := rv.next k10
            replace rd := rd.next k10
            replace hb := hb.trans (k10.mono hb.size)
            clear k10
            go_wp2_with fail
            refine (sameAt Lw rw rT3 (by rfl) (by omega)).mono ?_
            rintro e x11 ⟨rfl, k11⟩
            replace ra := ra.next k11
            replace rb := rb.next k11
            replace m1 := m1.next k11
            replace m2 := m2.next k11
            replace m3 := m3.next k11
            replace ru := ru.next k11
            replace rc := rc.next k11
            replace rw := rw.next k11
            replace rv := rv.next k11
            replace rd := rd.next k11
            replace rT3 := rT3.next k11
            replace hb := hb.trans (k11.mono hb.size)
            clear k11
            clear rT3 fT3
            clear m1 m2 m3
            go_wp2_with fail
            refine (pairsAt Lu ru (by rfl) (by omega)).mono ?_
            rintro e x12 ⟨Qru, dru, rfl, fru, pru, k12⟩
            replace ra := ra.next k12
            replace rb := rb.next k12
            replace ru := ru.next k12
            replace rc := rc.next k12
            replace rw := rw.next k12
            replace rv := rv.next k12
            replace rd := rd.next k12
            replace hb := hb.trans (k12.mono hb.size)
            clear k12
            go_wp2_with fail
            refine (sameAt Lu rv pru (by rfl) (by omega)).mono ?_
            rintro e x13 ⟨rfl, k13⟩
            replace ra := ra.next k13
            replace rb := rb.next k13
            replace ru := ru.next k13
            replace rc := rc.next k13
            replace rw := rw.next k13
            replace rv := rv.next k13
            replace rd := rd.next k13
            replace pru := pru.next k13
            replace hb := hb.trans (k13.mono hb.size)
            clear k13
            clear pru fru
            go_wp2_with fail
            refine (pairsAt Lc rc (by rfl) (by omega)).mono ?_
            rintro e x14 ⟨Qrc, drc, rfl, frc, prc, k14⟩
            replace ra := ra.next k14
            replace rb := rb.next k14
            replace ru := ru.next k14
            replace rc := rc.next k14
            replace rw := rw.next k14
            replace rv := rv.next k14
            replace rd := rd.next k14
            replace hb := hb.trans (k14.mono hb.size)
            clear k14
            go_wp2_with fail
            refine (sameAt Lc rd prc (by rfl) (by omega)).mono ?_
            rintro e x15 ⟨rfl, k15⟩
            replace ra := ra.next k15
            replace rb := rb.next k15
            replace ru := ru.next k15
            replace rc := rc.next k15
            replace rw := rw.next k15
            replace rv := rv.next k15
            replace rd := rd.next k15
            replace prc := prc.next k15
            replace hb := hb.trans (k15.mono hb.size)
            clear k15
            clear prc frc
            go_wp2_with fail
            refine (op_at union_any Lc Lw L1 rc rw (by rfl) (by rfl) (Nat.le_refl _) (Nat.le_refl _) (by omega) (by omega) (chk2_0 SS.vc SS.vw lc lw) SS.v1 (fun i => by rw [SS.hc i, SS.hw i]; cases hasB L1 i <;> cases hasB L2 i <;> rfl) la (by rfl)).mono ?_
            rintro e x16 ⟨Erall, rfl, rall, k16⟩
            replace ra := ra.next k16
            replace rb := rb.next k16
            replace ru := ru.next k16
            replace rc := rc.next k16
            replace rw := rw.next k16
            replace rv := rv.next k16
            replace rd := rd.next k16
            replace hb := hb.trans (k16.mono hb.size)
            clear k16
            go_wp2_with fail
            refine (op_at common_any Lc Lw [] rc rw (by rfl) (by rfl) (Nat.le_refl _) (Nat.le_refl _) (by omega) (by omega) (chk2_0 SS.vc SS.vw lc lw) trivial (fun i => by rw [SS.hc i, SS.hw i]; cases hasB L1 i <;> cases hasB L2 i <;> rfl) (by simp) (by rfl)).mono ?_
            rintro e x17 ⟨Enone, rfl, rnone, k17⟩
            replace ra := ra.next k17
            replace rb := rb.next k17
            replace ru := ru.next k17
            replace rc := rc.next k17
            replace rw := rw.next k17
            replace rv := rv.next k17
            replace rd := rd.next k17
            replace rall := rall.next k17
            replace hb := hb.trans (k17.mono hb.size)
            clear k17
            clear rnone
            go_wp2_with fail
            refine (pairsAt L1 ra (by rfl) (by omega)).mono ?_
            rintro e x18 ⟨Qa, da, rfl, fa, pa, k18⟩
            replace ra := ra.next k18
            replace rb := rb.next k18
            replace ru := ru.next k18
            replace rc := rc.next k18
            replace rw := rw.next k18
            replace rv := rv.next k18
            replace rd := rd.next k18
            replace rall := rall.next k18
            replace hb := hb.trans (k18.mono hb.size)
            clear k18
            go_wp2_with fail
            refine (sameAt L1 rall pa (by rfl) (by omega)).mono ?_
            rintro e x19 ⟨rfl, k19⟩
            replace ra := ra.next k19
            replace rb := rb.next k19
            replace ru := ru.next k19
            replace rc := rc.next k19
            replace rw := rw.next k19
            replace rv := rv.next k19
            replace rd := rd.next k19
            replace rall := rall.next k19
            replace pa := pa.next k19
            replace hb := hb.trans (k19.mono hb.size)
            clear k19
            go_wp2_with fail
            refine (same_nil 0).mono ?_
            rintro e x20 ⟨rfl, k20⟩
            replace ra := ra.next k20
            replace rb := rb.next k20
            replace ru := ru.next k20
            replace rc := rc.next k20
            replace rw := rw.next k20
            replace rv := rv.next k20
            replace rd := rd.next k20
            replace rall := rall.next k20
            replace pa := pa.next k20
            replace hb := hb.trans (k20.mono hb.size)
            clear k20
            go_wp2_with fail
            refine (count_at Lu ru (by rfl) CU.out (by omega)).mono ?_
            rintro e x21 ⟨rfl, k21⟩
            replace ra := ra.next k21
            replace rb := rb.next k21
            replace ru := ru.next k21
            replace rc := rc.next k21
            replace rw := rw.next k21
            replace rv := rv.next k21
            replace rd := rd.next k21
            replace rall := rall.next k21
            replace pa := pa.next k21
            replace hb := hb.trans (k21.mono hb.size)
            clear k21
            go_wp2_with fail
            refine (count_at L1 ra (by rfl) rfl (by omega)).mono ?_
            rintro e x22 ⟨rfl, k22⟩
            replace ra := ra.next k22
            replace rb := rb.next k22
            replace ru := ru.next k22
            replace rc := rc.next k22
            replace rw := rw.next k22
            replace rv := rv.next k22
            replace rd := rd.next k22
            replace rall := rall.next k22
            replace pa := pa.next k22
            replace hb := hb.trans (k22.mono hb.size)
            clear k22
            go_wp2_with fail
            refine (count_at L2 rb (by rfl) rfl (by omega)).mono ?_
            rintro e x23 ⟨rfl, k23⟩
            replace ra := ra.next k23
            replace rb := rb.next k23
            replace ru := ru.next k23
            replace rc := rc.next k23
            replace rw := rw.next k23
            replace rv := rv.next k23
            replace rd := rd.next k23
            replace rall := rall.next k23
            replace pa := pa.next k23
            replace hb := hb.trans (k23.mono hb.size)
            clear k23
            go_wp2_with fail
            refine (count_at Lc rc (by rfl) rfl (by omega)).mono ?_
            rintro e x24 ⟨rfl, k24⟩
            replace ra := ra.next k24
            replace rb := rb.next k24
            replace ru := ru.next k24
            replace rc := rc.next k24
            replace rw := rw.next k24
            replace rv := rv.next k24
            replace rd := rd.next k24
            replace rall := rall.next k24
            replace pa := pa.next k24
            replace hb := hb.trans (k24.mono hb.size)
            clear k24
            go_wp2_with fail
            refine (HL.out _).mono ?_
            rintro e x25 ⟨rfl, k25⟩
            replace ra := ra.next k25
            replace rb := rb.next k25
            replace ru := ru.next k25
            replace rc := rc.next k25
            replace rw := rw.next k25
            replace rv := rv.next k25
            replace rd := rd.next k25
            replace rall := rall.next k25
            replace pa := pa.next k25
            replace hb := hb.trans (k25.mono hb.size)
            clear k25
            go_wp2_with fail
            go_ret
            exact ⟨rfl, hb⟩
end Go.Proofs.Ytbkfebnggomhdaa
