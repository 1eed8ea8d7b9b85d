/- The walk of the law SpansMoves. -/
import Derived.Test.YtbkfebnggomhdaaL4Aux
namespace Go.Proofs.Ytbkfebnggomhdaa
open Go.RowKit
def LivesSaid4 : Prop := ∀ w : World, Calls Try.prog 9 #[] w fun e w' => e = .returned (.bool true) ∧ Below w.heap.size w w'
/-- the cell of the boxed argument, and what lay there before -/
structure Cx (w W : World) (x : Value) : Prop where
  c : W.cell? ⟨w.heap.size, 0, none⟩ = some x
  b : Below w.heap.size w W
  s : w.heap.size + 1 ≤ W.heap.size
theorem Cx.next {w W W1 : World} {x : Value} (h : Cx w W x) (k : Below W.heap.size W W1) : Cx w W1 x :=
  ⟨(k.cell (p := ⟨w.heap.size, 0, none⟩) (by have := h.s; show w.heap.size < _; omega)).trans h.c, h.b.trans (k.mono (by have := h.s; omega)), Nat.le_trans h.s k.size⟩
theorem marksAt {W : World} {A : Option Addr} {n c : Nat} {j : Int} (xs : List Sp) (m : Nat) (h : Rd W W.heap.size A xs) (hn : xs.length = n) (hl : xs.length ≤ 1000000) (hj : j = (m : Int)) (hm : m ≤ 1000000) (h0 : 0 < m) :
    Calls Try.prog 24 #[.slice A n c, .int .i64 j] W fun e w' => ∃ b o d, e = .returned (.slice (some ⟨b, o, none⟩) m d) ∧ m ≤ d ∧ RdB w' w'.heap.size (some ⟨b, o, none⟩) (mof xs m) ∧ Below W.heap.size W w' := by
  subst hn; subst hj
  refine (refMarks_any A c xs m W h (by omega) hm).mono ?_
  rintro e w' ⟨v, rfl, ho, hb⟩
  obtain ⟨B, d, rfl, hd, hr⟩ := ho.rd
  rw [mof_len] at hd ⊢
  obtain ⟨b, o, rfl, _⟩ := hr 0 (by rw [mof_len]; omega)
  exact ⟨b, o, d, rfl, hd, hr, hb⟩
theorem insMAt {W : World} {b o c n : Nat} {i j : Int} (ms : List Bool) (a m : Nat) (h : RdB W W.heap.size (some ⟨b, o, none⟩) ms) (hn : ms.length = n) (hl : ms.length ≤ 1000000) (hc : n ≤ c) (hi : i = (a : Int)) (hj : j = (m : Int)) (ha : a < ms.length) (hm : m ≤ 1000000) :
    Calls Try.prog 27 #[.slice (some ⟨b, o, none⟩) n c, .int .i64 i, .int .i64 j] W fun e w' => ∃ B d, e = .returned (.slice B (insB ms a m).length d) ∧ (insB ms a m).length ≤ d ∧ RdB w' w'.heap.size B (insB ms a m) ∧ Below W.heap.size W w' := by
  subst hn; subst hi; subst hj
  refine (refInsert_any b o c ms a m W h hc hl ha hm).mono ?_
  rintro e w' ⟨v, rfl, ho, hb⟩
  obtain ⟨B, d, rfl, hd, hr⟩ := ho.rd
  exact ⟨B, d, rfl, hd, hr, hb⟩
theorem remMAt {W : World} {b o c n : Nat} {i j : Int} (ms : List Bool) (a m : Nat) (h : RdB W W.heap.size (some ⟨b, o, none⟩) ms) (hn : ms.length = n) (hl : ms.length ≤ 1000000) (hc : n ≤ c) (hi : i = (a : Int)) (hj : j = (m : Int)) (ha : a < ms.length) (hm : m ≤ 1000000) :
    Calls Try.prog 28 #[.slice (some ⟨b, o, none⟩) n c, .int .i64 i, .int .i64 j] W fun e w' => ∃ B d, e = .returned (.slice B (remB ms a m).length d) ∧ (remB ms a m).length ≤ d ∧ RdB w' w'.heap.size B (remB ms a m) ∧ Below W.heap.size W w' := by
  subst hn; subst hi; subst hj
  refine (refRemove_any b o c ms a m W h hc hl ha hm).mono ?_
  rintro e w' ⟨v, rfl, ho, hb⟩
  obtain ⟨B, d, rfl, hd, hr⟩ := ho.rd
  exact ⟨B, d, rfl, hd, hr, hb⟩
theorem hasAt {W : World} {A : Option Addr} {n c : Nat} {i : Int} (xs : List Sp) (h : Rd W W.heap.size A xs) (hn : xs.length = n) (hl : xs.length ≤ 1000000) :
    Calls Try.prog 14 #[.slice A n c, .int .i64 i] W fun e w' => e = .returned (.bool (hasB xs i)) ∧ Below W.heap.size W w' := by
  subst hn
  exact refHas_any A c xs i W h (by omega)

/-- what the last statement of the law SpansMoves leans on -/
structure St (w W : World) (x : Value) (D Ea Eb Ek : Option Addr) (Ls La Lb : List Sp) : Prop where
  cx : Cx w W x
  ra : Rd W W.heap.size D Ls
  ri : Rd W W.heap.size Ea La
  rr : Rd W W.heap.size Eb Lb
  rk : Rd W W.heap.size Ek Ls
def SS4 (w : World) (x : Value) (D Ea Eb Ek : Option Addr) (Ls La Lb : List Sp) (W : World) : Prop := W.cell? ⟨w.heap.size, 0, none⟩ = some x ∧ St w W x D Ea Eb Ek Ls La Lb
section
variable {w W W1 : World} {x : Value} {D Ea Eb Ek : Option Addr} {Ls La Lb : List Sp}
theorem keep4 (h : W.cell? ⟨w.heap.size, 0, none⟩ = some x ∧ St w W x D Ea Eb Ek Ls La Lb) (k : Below W.heap.size W W1) : W1.cell? ⟨w.heap.size, 0, none⟩ = some x ∧ St w W1 x D Ea Eb Ek Ls La Lb :=
  ⟨(h.2.cx.next k).c, h.2.cx.next k, h.2.ra.next k, h.2.ri.next k, h.2.rr.next k, h.2.rk.next k⟩
theorem drew4 (h : St w W x D Ea Eb Ek Ls La Lb) : W.drew.cell? ⟨w.heap.size, 0, none⟩ = some x ∧ St w W.drew x D Ea Eb Ek Ls La Lb :=
  ⟨h.cx.c, ⟨h.cx.c, h.cx.b.drew, h.cx.s⟩, h.ra, h.ri, h.rr, h.rk⟩
end

set_option maxRecDepth 100000 in
set_option maxHeartbeats 4000000 in
theorem law4_any (hL : LivesSaid4) (A : Option Addr) (c : Nat) (xs ps : List Bool) (a n : Nat) (ha : a ≤ 255) (hn : n ≤ 255) (hps : xs.take 300 = ps) (w : World) (hrx : RdB w w.heap.size A xs) (hc : xs.length ≤ c) :
    Calls Try.prog 6 #[.agg #[.slice A xs.length c], .int .u8 (a : Int), .int .u8 (n : Int)] w fun e w' => e = .returned (.bool true) ∧ Below w.heap.size w w' := by
  have HL := Lib.hid hL; clear hL
  have S1 : Hid (∀ W, RdB W W.heap.size A xs → Calls Try.prog 18 #[.agg #[.slice A xs.length c]] W fun e w' => ∃ B d L, e = .returned (.slice B L.length d) ∧ L.length ≤ d ∧ MkSet ps L ∧ Rd w' w'.heap.size B L ∧ Below W.heap.size W w') := fun W h => by subst hps; exact sOf_any A c xs W h hc
  have HX : Hid (∀ W, Below w.heap.size w W → RdB W W.heap.size A xs) := fun W h => (hrx.below h).more h.size
  have lps : ps.length ≤ 300 := by subst hps; rw [List.length_take]; omega
  clear hps
  have cx : Cx w (w.alloc (.cells #[.slice A xs.length c] 41)) (.slice A xs.length c) := ⟨by simp [go_sem], (Below.refl _ w).alloc (Nat.le_refl _) _, by simp⟩
  have a0 : (0 : Int) ≤ (a : Int) := by omega
  have a1 : (a : Int) ≤ 255 := by omega
  have n0 : (0 : Int) ≤ (n : Int) := by omega
  have n1 : (n : Int) ≤ 255 := by omega
  have wa : (a : Int) % 18446744073709551616 = a := by omega
  have wn : (n : Int) % 18446744073709551616 = n := by omega
  go_enter Try.func6, Try.ntmps6
  go_wp2_with fail
  refine (S1.out _ (HX.out _ cx.b)).mono ?_
  rintro e x1 ⟨D, e1, Ls, rfl, hl1, hm1, ra, k1⟩
  replace cx := cx.next k1
  clear k1
  obtain ⟨La, Lb, mv⟩ := Mv.ex hm1 lps a n ha hn
  have S2 : Hid (∀ W, RdB W W.heap.size A xs → Calls Try.prog 18 #[.agg #[.slice A xs.length c]] W fun e w' => ∃ B d, e = .returned (.slice B Ls.length d) ∧ Ls.length ≤ d ∧ Rd w' w'.heap.size B Ls ∧ Below W.heap.size W w') := fun W h => (S1.out W h).mono fun e w' hh => by
    obtain ⟨B, d, L', he, h1, h2, h3, h4⟩ := hh
    obtain rfl : L' = Ls := val_ext h2.1 hm1.1 (fun i => (h2.2 i).trans (hm1.2 i).symm)
    exact ⟨B, d, he, h1, h3, h4⟩
  clear S1 hm1
  have mA := Lib.hid (mv.mkA ha)
  have mB := Lib.hid (mv.mkB ha)
  have zA : (insB (mof Ls (400 + n)) a n).length ≤ 1000 := by rw [insB_len (by rw [mof_len]; omega), mof_len]; omega
  have zB : (remB (mof Ls (400 + n)) a n).length ≤ 1000 := by have := remB_len (ms := mof Ls (400 + n)) (a := a) (n := n); rw [mof_len] at this; omega
  have zM := mof_len Ls (400 + n)
  have RA : Hid (∀ W (b o c : Nat), RdB W W.heap.size (some ⟨b, o, none⟩) (mof Ls (400 + n)) → 400 + n ≤ c → Calls Try.prog 27 #[.slice (some ⟨b, o, none⟩) (400 + n) c, .int .i64 (a : Int), .int .i64 (n : Int)] W fun e w' => ∃ B d, e = .returned (.slice B (insB (mof Ls (400 + n)) a n).length d) ∧ (insB (mof Ls (400 + n)) a n).length ≤ d ∧ RdB w' w'.heap.size B (insB (mof Ls (400 + n)) a n) ∧ Below W.heap.size W w') := fun W b o c h hc => insMAt _ a n h zM (by omega) hc rfl rfl (by omega) (by omega)
  have RB : Hid (∀ W (b o c : Nat), RdB W W.heap.size (some ⟨b, o, none⟩) (mof Ls (400 + n)) → 400 + n ≤ c → Calls Try.prog 28 #[.slice (some ⟨b, o, none⟩) (400 + n) c, .int .i64 (a : Int), .int .i64 (n : Int)] W fun e w' => ∃ B d, e = .returned (.slice B (remB (mof Ls (400 + n)) a n).length d) ∧ (remB (mof Ls (400 + n)) a n).length ≤ d ∧ RdB w' w'.heap.size B (remB (mof Ls (400 + n)) a n) ∧ Below W.heap.size W w') := fun W b o c h hc => remMAt _ a n h zM (by omega) hc rfl rfl (by omega) (by omega)
  have TA : Hid (∀ A c W, RdB W W.heap.size A (insB (mof Ls (400 + n)) a n) → Calls Try.prog 23 #[.slice A (insB (mof Ls (400 + n)) a n).length c] W fun e w' => ∃ B d, e = .returned (.slice B La.length d) ∧ La.length ≤ d ∧ Rd w' w'.heap.size B La ∧ Below W.heap.size W w') := fun A c W h => refSp mA.out zA h rfl
  have TB : Hid (∀ A c W, RdB W W.heap.size A (remB (mof Ls (400 + n)) a n) → Calls Try.prog 23 #[.slice A (remB (mof Ls (400 + n)) a n).length c] W fun e w' => ∃ B d, e = .returned (.slice B Lb.length d) ∧ Lb.length ≤ d ∧ Rd w' w'.heap.size B Lb ∧ Below W.heap.size W w') := fun A c W h => refSp mB.out zB h rfl
  clear mA mB zA zB zM
  have MK : Hid (∀ W B d, Rd W W.heap.size B Ls → Calls Try.prog 24 #[.slice B Ls.length d, .int .i64 (400 + (n : Int))] W fun e w' => ∃ b o d, e = .returned (.slice (some ⟨b, o, none⟩) (400 + n) d) ∧ 400 + n ≤ d ∧ RdB w' w'.heap.size (some ⟨b, o, none⟩) (mof Ls (400 + n)) ∧ Below W.heap.size W w') := fun W B d h => marksAt Ls (400 + n) h rfl (by have := mv.le; omega) (by omega) (by omega) (by omega)
  have lE := mv.le
  have lA := mv.la
  have lB := mv.lb
  have cA := Lib.hid mv.cA
  have cB := Lib.hid (mv.cB ha hn)
  have bL := cnt_bd mv.v (by omega)
  generalize insB (mof Ls (400 + n)) a n = mi at *
  generalize remB (mof Ls (400 + n)) a n = mr at *
  generalize mof Ls (400 + n) = mm at *
  go_wp2_with fail
  refine (pairsAt Ls ra (by rfl) (by omega)).mono ?_
  rintro e x2 ⟨Q1, d1, rfl, f1, q1, k2⟩
  replace cx := cx.next k2
  replace ra := ra.next k2
  clear k2
  go_wp2_with fail
  refine (MK.out _ _ _ q1).mono ?_
  rintro e x3 ⟨bm, om, cm, rfl, hcm, rm, k3⟩
  replace cx := cx.next k3
  replace ra := ra.next k3
  replace q1 := q1.next k3
  clear k3
  clear q1
  go_wp2_with fail
  refine (ins_at Ls La ra (by rfl) (by omega) (mv.inA ha hn) mv.va (fun i => (mv.ha i).symm) (by omega) (by rfl)).mono ?_
  rintro e x4 ⟨Ea, rfl, ri, k4⟩
  replace cx := cx.next k4
  replace ra := ra.next k4
  replace rm := rm.next k4
  clear k4
  go_wp2_with fail
  refine (rem_at Ls Lb ra (by rfl) (by omega) (mv.rmB ha hn) mv.vb (fun i => (mv.hb i).symm) (by omega) (by rfl)).mono ?_
  rintro e x5 ⟨Eb, rfl, rr, k5⟩
  replace cx := cx.next k5
  replace ra := ra.next k5
  replace rm := rm.next k5
  replace ri := ri.next k5
  clear k5
  go_wp2_with fail
  refine (RA.out _ _ _ _ rm hcm).mono ?_
  rintro e x6 ⟨B1, c1, rfl, g1, r1, k6⟩
  replace cx := cx.next k6
  replace ra := ra.next k6
  replace rm := rm.next k6
  replace ri := ri.next k6
  replace rr := rr.next k6
  clear k6
  go_wp2_with fail
  refine (TA.out _ _ _ r1).mono ?_
  rintro e x7 ⟨B2, c2, rfl, g2, r2, k7⟩
  replace cx := cx.next k7
  replace ra := ra.next k7
  replace rm := rm.next k7
  replace ri := ri.next k7
  replace rr := rr.next k7
  replace r1 := r1.next k7
  clear k7
  clear r1
  go_wp2_with fail
  refine (sameAt La ri r2 (by rfl) (by omega)).mono ?_
  rintro e x8 ⟨rfl, k8⟩
  replace cx := cx.next k8
  replace ra := ra.next k8
  replace rm := rm.next k8
  replace ri := ri.next k8
  replace rr := rr.next k8
  replace r2 := r2.next k8
  clear k8
  clear r2
  go_wp2_with fail
  refine (RB.out _ _ _ _ rm hcm).mono ?_
  rintro e x9 ⟨B3, c3, rfl, g3, r3, k9⟩
  replace cx := cx.next k9
  replace ra := ra.next k9
  replace rm := rm.next k9
  replace ri := ri.next k9
  replace rr := rr.next k9
  clear k9
  clear rm
  go_wp2_with fail
  refine (TB.out _ _ _ r3).mono ?_
  rintro e x10 ⟨B4, c4, rfl, g4, r4, k10⟩
  replace cx := cx.next k10
  replace ra := ra.next k10
  replace ri := ri.next k10
  replace rr := rr.next k10
  replace r3 := r3.next k10
  clear k10
  clear r3
  go_wp2_with fail
  refine (sameAt Lb rr r4 (by rfl) (by omega)).mono ?_
  rintro e x11 ⟨rfl, k11⟩
  replace cx := cx.next k11
  replace ra := ra.next k11
  replace ri := ri.next k11
  replace rr := rr.next k11
  replace r4 := r4.next k11
  clear k11
  clear r4
  go_wp2_with fail
  refine (rem_at La Ls ri (by rfl) (by omega) (mv.rmA ha hn) mv.v mv.back (by omega) (by rfl)).mono ?_
  rintro e x12 ⟨Ek, rfl, rk, k12⟩
  replace cx := cx.next k12
  replace ra := ra.next k12
  replace ri := ri.next k12
  replace rr := rr.next k12
  clear k12
  clear TA TB RA RB MK f1 g1 g2 g3 g4 hcm
  go_wp2_with fail
  go_loopw [16, 17] (fun ug ui wr => ∃ k : Nat, k ≤ n ∧ ui = .int .i64 ((a : Int) + k) ∧ ug = .int .i64 (gn Ls a k) ∧ Below x12.heap.size x12 wr) (fun _ ui _ => a + n - (intOf ui).toNat)
  case atStart => exact ⟨0, Nat.zero_le _, by simp, rfl, Below.refl _ _⟩
  case round =>
    obtain ⟨k, hk, rfl, rfl, hbr⟩ := hrel
    have raj := ra.next hbr
    have hgb := gn_bd Ls a k
    by_cases hlt : k < n
    · have hltI : (a : Int) + (k : Int) < (a : Int) + (n : Int) := by omega
      cases hB : hasB Ls ((a : Int) + k) with
      | true =>
        have HG := Lib.hid (gn_t hB)
        have HB := Lib.hid hB; clear hB
        go_wp2_with fail
        refine (pairsAt Ls raj (by rfl) (by omega)).mono ?_
        rintro e y1 ⟨Q2, d2, rfl, f2, q2, j1⟩
        replace hbr := hbr.trans (j1.mono hbr.size)
        clear j1
        go_wp2_with fail
        refine (hasAt Ls q2 (by rfl) (by omega)).mono ?_
        rintro e y2 ⟨rfl, j2⟩
        replace hbr := hbr.trans (j2.mono hbr.size)
        clear j2
        rw [HB.out]
        go_wp2_with fail
        go_roundw
        case rel => exact ⟨k + 1, by omega, by go_num, by rw [HG.out], hbr⟩
        case measure => simp [intOf]; omega
      | false =>
        have HG := Lib.hid (gn_f hB)
        have HB := Lib.hid hB; clear hB
        go_wp2_with fail
        refine (pairsAt Ls raj (by rfl) (by omega)).mono ?_
        rintro e y1 ⟨Q2, d2, rfl, f2, q2, j1⟩
        replace hbr := hbr.trans (j1.mono hbr.size)
        clear j1
        go_wp2_with fail
        refine (hasAt Ls q2 (by rfl) (by omega)).mono ?_
        rintro e y2 ⟨rfl, j2⟩
        replace hbr := hbr.trans (j2.mono hbr.size)
        clear j2
        rw [HB.out]
        go_wp2_with fail
        go_roundw
        case rel => exact ⟨k + 1, by omega, by go_num, by rw [HG.out], hbr⟩
        case measure => simp [intOf]; omega
    · have hkn : k = n := by omega
      subst hkn
      replace cx := cx.next hbr
      replace ra := ra.next hbr
      replace ri := ri.next hbr
      replace rr := rr.next hbr
      replace rk := rk.next hbr
      generalize gn Ls a k = gg at *
      clear raj hbr
      obtain ⟨cl, hcl⟩ : ∃ cl, cnt Ls = cl := ⟨_, rfl⟩
      have CL : Hid (cnt Ls = cl) := hcl
      have cA' : Hid (cnt La = cl) := cA.out.trans hcl
      have cB' : Hid (cnt Lb = cl - gg) := by rw [← hcl]; exact cB.out
      rw [hcl] at bL
      clear cA cB hcl
      obtain ⟨bL0, bL1⟩ := bL
      obtain ⟨hg0, hg1⟩ := hgb
      have st0 : St w wr (.slice A xs.length c) D Ea Eb Ek Ls La Lb := ⟨cx, ra, ri, rr, rk⟩
      have zl : (Ls.length : Int) ≤ e1 := by omega
      have zw : IntKind.i64.wrap (cl - gg) = cl - gg := IntWalk.i64_in _ (by omega)
      have zz : (0 : Int) ≤ (Ls.length : Int) := by omega
      clear cx ra ri rr rk mv
      go_wp2_with fail
      go_region_held3 (fun W' => W'.cell? ⟨w.heap.size, 0, none⟩ = some (.slice A xs.length c) ∧ St w W' (.slice A xs.length c) D Ea Eb Ek Ls La Lb)
        (first
          | exact drew4 st0
          | exact keep4 (by assumption) kk
          | go_keep)
        (first
          | (go_at_call_of 11 (Value.slice D Ls.length e1); refine (pairsAt Ls ?_ (by rfl) (by omega)).mono ?_; (exact (‹_ ∧ St _ _ _ _ _ _ _ _ _ _›).2.ra); rintro e v1 ⟨Q5, d5, rfl, f5, q5, kk⟩)
          | (go_at_call_of 17 (Value.slice Ek Ls.length Ls.length); refine (sameAt Ls ?_ q5 (by rfl) (by omega)).mono ?_; (exact (‹_ ∧ St _ _ _ _ _ _ _ _ _ _›).2.rk); rintro e v2 ⟨rfl, kk⟩)
          | (go_at_call_of 15 (Value.slice Eb Lb.length Lb.length); refine (count_at Lb ?_ (by rfl) cB'.out (by omega)).mono ?_; (exact (‹_ ∧ St _ _ _ _ _ _ _ _ _ _›).2.rr); rintro e v3 ⟨rfl, kk⟩)
          | (go_at_call_of 15 (Value.slice D Ls.length e1); refine (count_at Ls ?_ (by rfl) CL.out (by omega)).mono ?_; (exact (‹_ ∧ St _ _ _ _ _ _ _ _ _ _›).2.ra); rintro e v4 ⟨rfl, kk⟩)
          | (go_at_call_of 15 (Value.slice Ea La.length La.length); refine (count_at La ?_ (by rfl) cA'.out (by omega)).mono ?_; (exact (‹_ ∧ St _ _ _ _ _ _ _ _ _ _›).2.ri); rintro e v5 ⟨rfl, kk⟩)
          | (go_at_call_of 18 (Value.agg #[Value.slice A xs.length c]); refine (S2.out _ (HX.out _ ?_)).mono ?_; (exact (‹_ ∧ St _ _ _ _ _ _ _ _ _ _›).2.cx.b); rintro e v6 ⟨D7, d7, rfl, f7, q7, kk⟩)
          | (go_at_call_of 17 (Value.slice D7 Ls.length Ls.length); refine (sameAt Ls (q7.next kk) q5 (by rfl) (by omega)).mono ?_; rintro e v8 ⟨rfl, kk⟩)
          | (go_at_call 9; refine (HL.out _).mono ?_; rintro e v9 ⟨rfl, kk⟩))
      go_wp2_with fail
      go_ret
      first
        | exact ⟨rfl, (keep4 (by assumption) kk).2.cx.b⟩
        | exact ⟨rfl, (‹_ ∧ St _ _ _ _ _ _ _ _ _ _›).2.cx.b⟩
end Go.Proofs.Ytbkfebnggomhdaa
