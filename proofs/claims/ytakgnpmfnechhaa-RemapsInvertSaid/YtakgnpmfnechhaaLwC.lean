/- The law RemapsCheck. -/
import Derived.Test.YtakgnpmfnechhaaMemW
namespace Go.Proofs.Ytakgnpmfnechhaa
open Go.RowKit

theorem chk_none : chkM 0 [] = 0 := by decide
theorem cmp_right {o : Int} {l : List Int} {p : Int} (hp : chkM o l = p) (h0 : p ≠ 0) : cmpM o l 0 [] = ((0, []), p) := by unfold cmpM; rw [hp, if_pos h0]
theorem cmp_left {o : Int} {l : List Int} {p : Int} (hp : chkM o l = p) (h0 : p ≠ 0) : cmpM 0 [] o l = ((0, []), p) := by unfold cmpM; rw [chk_none, if_neg (by decide), hp, if_pos h0]
theorem inv_bad {o : Int} {l : List Int} {p : Int} (hp : chkM o l = p) (h0 : p ≠ 0) : invM o l = ((0, []), p) := by unfold invM; rw [hp, if_pos h0]
theorem gon_bad {o : Int} {l : List Int} {p : Int} (hp : chkM o l = p) (h0 : p ≠ 0) : gonM o l = ([], p) := by unfold gonM; rw [hp, if_pos h0]
theorem at_bad {o : Int} {l : List Int} {p : Int} (hp : chkM o l = p) (h0 : p ≠ 0) (x : Int) : atM o l x = (0, p) := by unfold atM; rw [hp, if_pos h0]
theorem car_bad {o : Int} {l : List Int} {p : Int} (hp : chkM o l = p) (h0 : p ≠ 0) (xs : List Int) : carM o l xs = ([], p) := by unfold carM; rw [hp, if_pos h0]
set_option maxRecDepth 100000 in
set_option maxHeartbeats 8000000 in
theorem law3_bad {w : World} {A : Option Addr} {c : Nat} {l : List Int} (o x : Int) (h : SlI w A c l) (hl : l.length ≤ 60) {p : Int} (hp : chkM o l = p) (h0 : p ≠ 0) : Calls Try.prog 3 #[.agg #[.int .i64 o, .slice A l.length c], .int .i64 x] w (YesB w) := by
  have hl2 : ¬ (60 < (l.length : Int)) := by omega
  have hlen : l.length ≤ 9223372036854775807 := by omega
  have HP := Lib.hid (show chkM o l = p ∧ p ≠ 0 from ⟨hp, h0⟩)
  have hN := (MM.start w).pushM (o := o) rfl h
  have M := Lib.hid hN
  obtain ⟨g2, eg⟩ : ∃ g : Nat, w.heap.size = g := ⟨_, rfl⟩
  obtain ⟨V2, ev⟩ : ∃ V : World, w.alloc (.cells #[.int .i64 o, .slice A l.length c] 24) = V := ⟨_, rfl⟩
  rw [eg, ev] at M
  clear hN h hp hl
  obtain ⟨x0, x1⟩ := (M.out.at 0 rfl).cells
  go_enter Try.func3, Try.ntmps3
  go_wp2_with fail
  clear eg ev x0 x1
  have K := refCheck_any o c (M.out.at 0 rfl).sl.rd hlen
  rw [HP.out.1] at K
  refine K.mono ?_
  intro e w3 h
  obtain ⟨rfl, hb⟩ := numD_b h
  replace M := Lib.hid (M.out.next hb)
  clear K h hb
  go_wp2_with fail
  refine (of_any _ _ _ _ _).mono ?_
  rintro e w4 ⟨rfl, rfl⟩
  replace M := Lib.hid (M.out.next (below_new w3 (.cells #[.int .i64 0, .slice none 0 0] 24)))
  obtain ⟨w5, e5⟩ : ∃ V : World, w3.alloc (.cells #[.int .i64 0, .slice none 0 0] 24) = V := ⟨_, rfl⟩
  rw [e5] at M ⊢
  clear e5
  have M5 := M
  have hN := M.out.pushM (o := 0) (n := 0) (l := []) rfl (SlI.none w5)
  replace M := Lib.hid hN
  clear hN
  obtain ⟨x0, x1⟩ := (M5.out.at 0 rfl).cells
  have hlt := (M5.out.at 0 rfl).lt
  go_wp2_with fail
  clear x0 x1 hlt M5
  have K := Lib.hid (compose_any o 0 (M.out.at 1 rfl).sl (M.out.at 0 rfl).sl)
  rw [cmp_right HP.out.1 HP.out.2] at K
  refine (K.out).mono ?_
  intro e w7 h
  obtain ⟨A7, rfl, hs, hf, hb⟩ := map_at h (n := 0) rfl
  have hN := (M.out.next hb).pushM (o := 0) (n := 0) rfl hs
  obtain ⟨g7, eg⟩ : ∃ g : Nat, w7.heap.size = g := ⟨_, rfl⟩
  obtain ⟨V7, ev⟩ : ∃ V : World, w7.alloc (.cells #[.int .i64 0, .slice A7 0 0] 24) = V := ⟨_, rfl⟩
  rw [eg, ev] at hN
  replace M := Lib.hid hN
  clear h hs hf hb hN
  clear K
  obtain ⟨x0, x1⟩ := (M.out.at 2 rfl).cells
  obtain ⟨y0, y1⟩ := (M.out.at 1 rfl).cells_n (n := 0) rfl
  go_wp2_with fail
  clear eg ev x0 x1 y0 y1
  have K := Lib.hid (compose_any 0 o (M.out.at 1 rfl).sl (M.out.at 2 rfl).sl)
  rw [cmp_left HP.out.1 HP.out.2] at K
  refine (K.out).mono ?_
  intro e w8 h
  obtain ⟨A8, rfl, hs, hf, hb⟩ := map_at h (n := 0) rfl
  have hN := (M.out.next hb).pushM (o := 0) (n := 0) rfl hs
  obtain ⟨g8, eg⟩ : ∃ g : Nat, w8.heap.size = g := ⟨_, rfl⟩
  obtain ⟨V8, ev⟩ : ∃ V : World, w8.alloc (.cells #[.int .i64 0, .slice A8 0 0] 24) = V := ⟨_, rfl⟩
  rw [eg, ev] at hN
  replace M := Lib.hid hN
  clear h hs hf hb hN
  clear K
  obtain ⟨x0, x1⟩ := (M.out.at 3 rfl).cells
  go_wp2_with fail
  clear eg ev x0 x1
  have K := Lib.hid (invert_any o (M.out.at 3 rfl).sl)
  rw [inv_bad HP.out.1 HP.out.2] at K
  refine (K.out).mono ?_
  intro e w9 h
  obtain ⟨A9, rfl, hs, hf, hb⟩ := map_at h (n := 0) rfl
  have hN := (M.out.next hb).pushM (o := 0) (n := 0) rfl hs
  obtain ⟨g9, eg⟩ : ∃ g : Nat, w9.heap.size = g := ⟨_, rfl⟩
  obtain ⟨V9, ev⟩ : ∃ V : World, w9.alloc (.cells #[.int .i64 0, .slice A9 0 0] 24) = V := ⟨_, rfl⟩
  rw [eg, ev] at hN
  replace M := Lib.hid hN
  clear h hs hf hb hN
  clear K
  obtain ⟨x0, x1⟩ := (M.out.at 4 rfl).cells
  go_wp2_with fail
  clear eg ev x0 x1
  have K := Lib.hid (at_map o (M.out.at 4 rfl).sl x)
  rw [at_bad HP.out.1 HP.out.2] at K
  refine K.out.mono ?_
  rintro e w10 ⟨rfl, hb⟩
  replace M := Lib.hid (M.out.next hb)
  clear K hb
  obtain ⟨x0, x1⟩ := (M.out.at 4 rfl).cells
  go_wp2_with fail
  clear x0 x1
  have K := Lib.hid (gone_any o (M.out.at 4 rfl).sl)
  rw [gon_bad HP.out.1 HP.out.2] at K
  refine (K.out).mono ?_
  intro e w11 h
  obtain ⟨A11, rfl, hs, hb⟩ := rowX_at h (n := 0) rfl
  have hN := (M.out.next hb).pushR hs
  replace M := Lib.hid hN
  clear h hs hb hN
  clear K
  obtain ⟨x0, x1⟩ := (M.out.at 4 rfl).cells
  go_wp2_with fail
  clear x0 x1
  have K := check_any o c (M.out.at 4 rfl).sl.rd hlen
  rw [HP.out.1] at K
  refine K.mono ?_
  rintro e w12 ⟨rfl, hb⟩
  replace M := Lib.hid (M.out.next hb)
  clear K hb
  have hq1 : (p == 0) = false := by simpa using HP.out.2
  have hq2 : (p != 0) = true := by simpa using HP.out.2
  obtain ⟨x0, x1⟩ := (M.out.at 4 rfl).cells
  go_wp2_with fail
  clear x0 x1
  have hS := (M.out.next (below_new w12 (.cells #[.int .i64 1] 3))).pushR (lit_sl w12 [1] rfl (by decide))
  have K := Lib.hid (carry_any o (hS.at 4 rfl).sl (hS.row 0 rfl))
  rw [car_bad HP.out.1 HP.out.2] at K
  replace M := Lib.hid hS
  clear hS
  refine (K.out).mono ?_
  intro e w13 h
  obtain ⟨A13, rfl, hs, hb⟩ := rowX_at h (n := 0) rfl
  have hN := (M.out.next hb).pushR hs
  replace M := Lib.hid hN
  clear h hs hb hN
  clear K
  obtain ⟨x0, x1⟩ := (M.out.at 2 rfl).cells_n (n := 0) rfl
  go_wp2_with fail
  clear x0 x1
  refine (same_nil 0 p (M.out.at 2 rfl).sl).mono ?_
  rintro e w14 ⟨rfl, hb⟩
  replace M := Lib.hid (M.out.next hb)
  clear hb
  obtain ⟨x0, x1⟩ := (M.out.at 1 rfl).cells_n (n := 0) rfl
  go_wp2_with fail
  clear x0 x1
  refine (same_nil 0 p (M.out.at 1 rfl).sl).mono ?_
  rintro e w15 ⟨rfl, hb⟩
  replace M := Lib.hid (M.out.next hb)
  clear hb
  obtain ⟨x0, x1⟩ := (M.out.at 0 rfl).cells_n (n := 0) rfl
  go_wp2_with fail
  clear x0 x1
  refine (same_nil 0 p (M.out.at 0 rfl).sl).mono ?_
  rintro e w16 ⟨rfl, hb⟩
  replace M := Lib.hid (M.out.next hb)
  clear hb
  go_wp2_with fail
  refine (list_nil p (M.out.row 2 rfl)).mono ?_
  rintro e w17 ⟨rfl, hb⟩
  replace M := Lib.hid (M.out.next hb)
  clear hb
  go_wp2_with fail
  refine (list_nil p (M.out.row 0 rfl)).mono ?_
  rintro e w18 ⟨rfl, hb⟩
  replace M := Lib.hid (M.out.next hb)
  clear hb
  go_wp2_with fail
  refine (lives_any w18).mono ?_
  rintro e w19 ⟨rfl, hb⟩
  replace M := Lib.hid (M.out.next hb)
  clear hb
  go_wp2_with fail
  go_ret
  exact ⟨rfl, M.out.u⟩
theorem cmp_right0 {n : Nat} {l : List Int} (hv : Vm n l) : ∃ o1 L1 e1 n1, cmpM n l 0 [] = ((o1, L1), e1) ∧ L1.length = n1 ∧ ((l.length = 0 ∧ e1 = 0) ∨ (l.length ≠ 0 ∧ e1 = 16)) := by
  unfold cmpM
  rw [if_neg (by rw [chkM_zero.2 hv]; decide), if_neg (by decide)]
  by_cases h : l.length = 0
  · rw [if_neg (by omega)]
    exact ⟨_, _, _, _, rfl, rfl, .inl ⟨h, rfl⟩⟩
  · rw [if_pos (by omega)]
    exact ⟨_, _, _, _, rfl, rfl, .inr ⟨h, rfl⟩⟩
theorem cmp_left0 {n : Nat} {l : List Int} (hv : Vm n l) : ∃ o1 L1 e1 n1, cmpM 0 [] n l = ((o1, L1), e1) ∧ L1.length = n1 ∧ ((n = 0 ∧ e1 = 0) ∨ (n ≠ 0 ∧ e1 = 16)) := by
  unfold cmpM
  rw [if_neg (by decide), if_neg (by rw [chkM_zero.2 hv]; decide)]
  by_cases h : n = 0
  · rw [if_neg (by simp; omega)]
    exact ⟨_, _, _, _, rfl, rfl, .inl ⟨h, rfl⟩⟩
  · rw [if_pos (by simp; omega)]
    exact ⟨_, _, _, _, rfl, rfl, .inr ⟨h, rfl⟩⟩
theorem at_ways {n : Nat} {l : List Int} (hv : Vm n l) {x q : Int} (hq : atL l x = q) : ∃ y hh, atM n l x = (y, hh) ∧
    (((x < 0 ∨ (¬ (x < 0) ∧ (n : Int) ≤ x)) ∧ y = 0 ∧ hh = 4) ∨ (¬ (x < 0) ∧ ¬ ((n : Int) ≤ x) ∧ q < 0 ∧ y = 0 ∧ hh = 11) ∨ (¬ (x < 0) ∧ ¬ ((n : Int) ≤ x) ∧ ¬ (q < 0) ∧ y = q ∧ hh = 0)) := by
  unfold atM
  rw [if_neg (by rw [chkM_zero.2 hv]; decide), hq]
  by_cases h : x < 0 ∨ (n : Int) ≤ x
  · rw [if_pos h]
    exact ⟨_, _, rfl, .inl ⟨by omega, rfl, rfl⟩⟩
  · rw [if_neg h]
    by_cases h2 : q < 0
    · rw [if_pos h2]
      exact ⟨_, _, rfl, .inr (.inl ⟨by omega, by omega, h2, rfl, rfl⟩)⟩
    · rw [if_neg h2]
      exact ⟨_, _, rfl, .inr (.inr ⟨by omega, by omega, h2, rfl, rfl⟩)⟩
set_option maxRecDepth 100000 in
set_option maxHeartbeats 8000000 in
theorem law3_ok {w : World} {A : Option Addr} {c n : Nat} {l : List Int} (x : Int) (h : SlI w A c l) (hl : l.length ≤ 60) (hv : Vm n l) : Calls Try.prog 3 #[.agg #[.int .i64 n, .slice A l.length c], .int .i64 x] w (YesB w) := by
  have hl2 : ¬ (60 < (l.length : Int)) := by omega
  have hlen : l.length ≤ 9223372036854775807 := by omega
  obtain ⟨o1, L1, e1, n1, hc1, hn1, hE1⟩ := cmp_right0 hv
  obtain ⟨o2, L2, e2, n2, hc2, hn2, hE2⟩ := cmp_left0 hv
  obtain ⟨q, hq⟩ : ∃ q, atL l x = q := ⟨_, rfl⟩
  obtain ⟨y, hh, hat, hA⟩ := at_ways hv hq
  obtain ⟨dn, hdn⟩ : ∃ d, (goneL n l).length = d := ⟨_, rfl⟩
  have hgm := @gone_more n l
  rw [hdn] at hgm
  have hgm2 : ¬ ((dn : Int) + (l.length : Int) < (n : Int)) := by omega
  have hdn2 : dn ≤ 4096 := by have := gone_len n l; have := hv.o1; omega
  have HC1 := Lib.hid hc1
  have HC2 := Lib.hid hc2
  have HN1 := Lib.hid hn1
  have HN2 := Lib.hid hn2
  have HE1 := Lib.hid hE1
  have HE2 := Lib.hid hE2
  have HAT := Lib.hid hat
  have HA := Lib.hid hA
  have HDN := Lib.hid hdn
  have HQ := Lib.hid hq
  have HP := Lib.hid hv
  have hN := (MM.start w).pushM (o := n) rfl h
  have M := Lib.hid hN
  obtain ⟨g2, eg⟩ : ∃ g : Nat, w.heap.size = g := ⟨_, rfl⟩
  obtain ⟨V2, ev⟩ : ∃ V : World, w.alloc (.cells #[.int .i64 n, .slice A l.length c] 24) = V := ⟨_, rfl⟩
  rw [eg, ev] at M
  clear hN h hl hv hc1 hc2 hn1 hn2 hE1 hE2 hat hA hdn hq hgm
  obtain ⟨x0, x1⟩ := (M.out.at 0 rfl).cells
  go_enter Try.func3, Try.ntmps3
  go_wp2_with fail
  clear eg ev x0 x1
  have K := refCheck_any n c (M.out.at 0 rfl).sl.rd hlen
  rw [chkM_zero.2 HP.out] at K
  refine K.mono ?_
  intro e w3 h
  obtain ⟨rfl, hb⟩ := numD_b h
  replace M := Lib.hid (M.out.next hb)
  clear K h hb
  go_wp2_with fail
  refine (of_any _ _ _ _ _).mono ?_
  rintro e w4 ⟨rfl, rfl⟩
  replace M := Lib.hid (M.out.next (below_new w3 (.cells #[.int .i64 0, .slice none 0 0] 24)))
  obtain ⟨w5, e5⟩ : ∃ V : World, w3.alloc (.cells #[.int .i64 0, .slice none 0 0] 24) = V := ⟨_, rfl⟩
  rw [e5] at M ⊢
  clear e5
  have M5 := M
  have hN := M.out.pushM (o := 0) (n := 0) (l := []) rfl (SlI.none w5)
  replace M := Lib.hid hN
  clear hN
  obtain ⟨x0, x1⟩ := (M5.out.at 0 rfl).cells
  have hlt := (M5.out.at 0 rfl).lt
  go_wp2_with fail
  clear x0 x1 hlt M5
  have K := Lib.hid (compose_any n 0 (M.out.at 1 rfl).sl (M.out.at 0 rfl).sl)
  rw [HC1.out] at K
  refine (K.out).mono ?_
  intro e w7 h
  obtain ⟨A7, rfl, hs, hf, hb⟩ := map_at h (n := n1) HN1.out
  have hN := (M.out.next hb).pushM (o := o1) (n := n1) HN1.out hs
  obtain ⟨g7, eg⟩ : ∃ g : Nat, w7.heap.size = g := ⟨_, rfl⟩
  obtain ⟨V7, ev⟩ : ∃ V : World, w7.alloc (.cells #[.int .i64 o1, .slice A7 n1 n1] 24) = V := ⟨_, rfl⟩
  rw [eg, ev] at hN
  replace M := Lib.hid hN
  clear h hs hf hb hN
  clear K HC1 HN1
  obtain ⟨x0, x1⟩ := (M.out.at 2 rfl).cells
  obtain ⟨y0, y1⟩ := (M.out.at 1 rfl).cells_n (n := 0) rfl
  go_wp2_with fail
  clear eg ev x0 x1 y0 y1
  have K := Lib.hid (compose_any 0 n (M.out.at 1 rfl).sl (M.out.at 2 rfl).sl)
  rw [HC2.out] at K
  refine (K.out).mono ?_
  intro e w8 h
  obtain ⟨A8, rfl, hs, hf, hb⟩ := map_at h (n := n2) HN2.out
  have hN := (M.out.next hb).pushM (o := o2) (n := n2) HN2.out hs
  obtain ⟨g8, eg⟩ : ∃ g : Nat, w8.heap.size = g := ⟨_, rfl⟩
  obtain ⟨V8, ev⟩ : ∃ V : World, w8.alloc (.cells #[.int .i64 o2, .slice A8 n2 n2] 24) = V := ⟨_, rfl⟩
  rw [eg, ev] at hN
  replace M := Lib.hid hN
  clear h hs hf hb hN
  clear K HC2 HN2
  obtain ⟨x0, x1⟩ := (M.out.at 3 rfl).cells
  go_wp2_with fail
  clear eg ev x0 x1
  have K := Lib.hid (invert_ok n (M.out.at 3 rfl).sl HP.out)
  refine (K.out).mono ?_
  intro e w9 h
  obtain ⟨A9, rfl, hs, hf, hb⟩ := map_at h (n := n) (invL_len n l)
  have hN := (M.out.next hb).pushM (o := l.length) (n := n) (invL_len n l) hs
  obtain ⟨g9, eg⟩ : ∃ g : Nat, w9.heap.size = g := ⟨_, rfl⟩
  obtain ⟨V9, ev⟩ : ∃ V : World, w9.alloc (.cells #[.int .i64 l.length, .slice A9 n n] 24) = V := ⟨_, rfl⟩
  rw [eg, ev] at hN
  replace M := Lib.hid hN
  clear h hs hf hb hN
  clear K
  obtain ⟨x0, x1⟩ := (M.out.at 4 rfl).cells
  go_wp2_with fail
  clear eg ev x0 x1
  have K := Lib.hid (at_map n (M.out.at 4 rfl).sl x)
  rw [HAT.out] at K
  refine K.out.mono ?_
  rintro e w10 ⟨rfl, hb⟩
  replace M := Lib.hid (M.out.next hb)
  clear K hb HAT
  obtain ⟨x0, x1⟩ := (M.out.at 4 rfl).cells
  go_wp2_with fail
  clear x0 x1
  have K := Lib.hid (gone_ok n (M.out.at 4 rfl).sl HP.out)
  refine (K.out).mono ?_
  intro e w11 h
  obtain ⟨A11, rfl, hs, hb⟩ := rowX_at h (n := dn) HDN.out
  have hN := (M.out.next hb).pushR hs
  replace M := Lib.hid hN
  clear h hs hb hN
  clear K HDN
  obtain ⟨x0, x1⟩ := (M.out.at 4 rfl).cells
  go_wp2_with fail
  clear x0 x1
  have K := check_any n c (M.out.at 4 rfl).sl.rd hlen
  rw [chkM_zero.2 HP.out] at K
  refine K.mono ?_
  rintro e w12 ⟨rfl, hb⟩
  replace M := Lib.hid (M.out.next hb)
  clear K hb
  have he1 := HE1.out
  have he2 := HE2.out
  clear HE1 HE2
  rcases he1 with ⟨hl0, rfl⟩ | ⟨hl0, rfl⟩ <;> rcases he2 with ⟨hn0, rfl⟩ | ⟨hn0, rfl⟩
  all_goals
    have hz1 : ((l.length : Int) == 0) = decide (l.length = 0) := by by_cases h : l.length = 0 <;> simp [h] <;> omega
    have hz2 : ((n : Int) == 0) = decide (n = 0) := by by_cases h : n = 0 <;> simp [h]
    first | rw [decide_eq_true hl0] at hz1 | rw [decide_eq_false hl0] at hz1
    first | rw [decide_eq_true hn0] at hz2 | rw [decide_eq_false hn0] at hz2
    clear hl0 hn0
    obtain ⟨x0, x1⟩ := (M.out.at 4 rfl).cells
    go_wp2_with fail
    have K := at_any c (M.out.at 4 rfl).sl.rd hlen x
    rw [HQ.out] at K
    refine K.mono ?_
    clear K
    rintro e w13 ⟨rfl, rfl⟩
    have ha := HA.out
    clear HA HQ
    rcases ha with ⟨ha, rfl, rfl⟩ | ⟨h1, h2, h3, rfl, rfl⟩ | ⟨h1, h2, h3, rfl, rfl⟩
    · rcases ha with ha | ⟨ha, hb⟩
      all_goals
        go_wp2_with fail
        clear x0 x1
        refine (lives_any w12).mono ?_
        rintro e w14 ⟨rfl, hb⟩
        replace M := Lib.hid (M.out.next hb)
        clear hb
        go_wp2_with fail
        go_ret
        exact ⟨rfl, M.out.u⟩
    · go_wp2_with fail
      clear x0 x1
      refine (lives_any w12).mono ?_
      rintro e w14 ⟨rfl, hb⟩
      replace M := Lib.hid (M.out.next hb)
      clear hb
      go_wp2_with fail
      go_ret
      exact ⟨rfl, M.out.u⟩
    · go_wp2_with fail
      clear x0 x1
      refine (lives_any w12).mono ?_
      rintro e w14 ⟨rfl, hb⟩
      replace M := Lib.hid (M.out.next hb)
      clear hb
      go_wp2_with fail
      go_ret
      exact ⟨rfl, M.out.u⟩
set_option maxRecDepth 100000 in
set_option maxHeartbeats 2000000 in
theorem law3_any {w : World} {A : Option Addr} {c : Nat} {l : List Int} (o x : Int) (h : SlI w A c l) : Calls Try.prog 3 #[.agg #[.int .i64 o, .slice A l.length c], .int .i64 x] w (YesB w) := by
  by_cases hl : l.length ≤ 60
  · by_cases h0 : chkM o l = 0
    · have hv := chkM_zero.1 h0
      obtain ⟨n, rfl⟩ : ∃ n : Nat, o = n := ⟨o.toNat, by have := hv.o0; omega⟩
      exact law3_ok x h hl hv
    · exact law3_bad o x h hl rfl h0
  · have hl2 : 60 < (l.length : Int) := by omega
    have hlen := h.len
    have HU := Lib.hid (below_new w (.cells #[.int .i64 o, .slice A l.length c] 24))
    clear h hl
    go_enter Try.func3, Try.ntmps3
    go_wp2_with fail
    refine (lives_any _).mono ?_
    rintro e w1 ⟨rfl, hb⟩
    have HB := Lib.hid (HU.out.trans (hb.mono HU.out.size))
    clear hb HU
    go_wp2_with fail
    go_ret
    exact ⟨rfl, HB.out⟩
end Go.Proofs.Ytakgnpmfnechhaa
