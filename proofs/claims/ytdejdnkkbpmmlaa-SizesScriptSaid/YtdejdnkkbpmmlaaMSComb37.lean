/- The walk of combine, with the closure of number 37. -/
import Derived.Test.YtdejdnkkbpmmlaaMSCombAux
namespace Go.Proofs.Ytdejdnkkbpmmlaa.S
open Go.RowKit
set_option maxRecDepth 100000 in
set_option maxHeartbeats 4000000 in
theorem comb37 (keep : Bool → Bool → Bool) (hk0 : keep false false = false) (hF : ∀ x y w, Calls Try.prog 69 #[.bool x, .bool y] w fun e w' => e = .returned (.bool (keep x y)) ∧ w = w')
    (Aa Ab : Option Addr) (ca cb : Nat) (xa xb : List Sp) (w : World) (hra : Rd w w.heap.size Aa xa) (hrb : Rd w w.heap.size Ab xb) (ha : chk xa = 0) (hb : chk xb = 0) (hca : xa.length ≤ ca) (hcb : xb.length ≤ cb) :
    Calls Try.prog 61 #[.slice Aa xa.length ca, .slice Ab xb.length cb, .func (.func 69) #[] #[]] w fun e w' => SetRes w.heap.size (fun i => keep (hasB xa i) (hasB xb i)) e w' ∧ Below w.heap.size w w' := by
  have la := chk_len ha
  have lb := chk_len hb
  have h0a : (chk xa != 0) = false := by rw [ha]; rfl
  have h0b : (chk xb != 0) = false := by rw [hb]; rfl
  have HA := Lib.hid ha
  have HB := Lib.hid hb
  clear ha hb
  go_enter Try.func61, Try.ntmps61
  go_wp2_with fail
  go_step3
  go_wp2_with fail
  refine (check_any _ _ _ _ hra (by omega)).mono ?_
  rintro e w1 ⟨rfl, hb1⟩
  go_wp2_with fail
  refine (check_any _ _ _ _ ((hrb.below hb1).more hb1.size) (by omega)).mono ?_
  rintro e w2 ⟨rfl, hb2⟩
  go_wp2_with fail
  go_step3
  go_wp2_with fail
  clear h0a h0b
  have hb0 : Below w.heap.size w w2 := hb1.trans (hb2.mono hb1.size)
  clear hb1 hb2
  go_loopw [0, 1, 10, 11] (fun ua ub uo ut wr => ∃ (Ba : Option Addr) (da : Nat) (Bb : Option Addr) (db : Nat) (ya yb out : List Sp) (v : Value) (t : Int),
      ua = .slice Ba ya.length da ∧ ub = .slice Bb yb.length db ∧ uo = v ∧ ut = .int .i64 t ∧ ya.length ≤ 4096 ∧ yb.length ≤ 4096 ∧ ya.length ≤ da ∧ yb.length ≤ db ∧ Rd wr w.heap.size Ba ya ∧ Rd wr w.heap.size Bb yb ∧ Own wr w.heap.size 72 v out ∧
      Sw keep xa xb ya yb out t ∧ Below w.heap.size w wr)
    (fun ua ub _ ut _ => measC (lenV ua) (lenV ub) (intOf ut))
  case atStart => exact ⟨_, _, _, _, xa, xb, [], _, 0, rfl, rfl, rfl, rfl, la, lb, hca, hcb, hra.below hb0, hrb.below hb0, World.ownsRow_nil _ _ _ _, Sw.start (val_of_chk HA.out) (val_of_chk HB.out), hb0⟩
  case round =>
    obtain ⟨Ba, da, Bb, db, ya, yb, out, v, t, rfl, rfl, rfl, rfl, lya, lyb, lda, ldb, ra, rb, ho, hs, hb⟩ := hrel
    have hpop : (∃ s r, ya = s :: r ∧ s.2 = t) ∨ ((ya = [] ∨ ∃ s r, ya = s :: r ∧ s.2 ≠ t) ∧ ((∃ s r, yb = s :: r ∧ s.2 = t) ∨ (ya = [] ∧ yb = []) ∨ ((yb = [] ∨ ∃ s r, yb = s :: r ∧ s.2 ≠ t) ∧ ¬ (ya = [] ∧ yb = [])))) := hpop_cases ya yb t
    rcases hpop with ⟨⟨p, q⟩, r, rfl, hq⟩ | ⟨hna, hpop⟩
    · obtain ⟨b, o, rfl, hbl, c0, c1⟩ := ra 0 (by simp)
      simp only [Nat.zero_mul, Nat.add_zero, List.getElem_cons_zero] at c0 c1
      have hr' := ra.tail lda
      have hs' := hs.pop_a hq
      have hqq : (q == t) = true := by simpa using hq
      have hx1 : 0 < ((p, q) :: r).length := by simp
      have HN := Lib.hid (show ((p, q) :: r).length - 1 = r.length from rfl)
      generalize hn : ((p, q) :: r).length = n at *
      clear hn
      have HQ := Lib.hid hq; clear hq
      go_wp2_with fail
      refine ⟨⟨_, _, _, _, r, yb, out, _, t, by rw [HN.out], rfl, rfl, rfl, by have := HN.out; omega, lyb, by have := HN.out; omega, ldb, hr', rb, ho, hs', hb⟩, meas_a hx1 rfl⟩
    rcases hpop with ⟨⟨p, q⟩, r, rfl, hq⟩ | ⟨rfl, rfl⟩ | ⟨hnb, hne⟩
    · obtain ⟨b, o, rfl, hbl, c0, c1⟩ := rb 0 (by simp)
      simp only [Nat.zero_mul, Nat.add_zero, List.getElem_cons_zero] at c0 c1
      have hr' := rb.tail ldb
      have hs' := hs.pop_b hq
      have hqq : (q == t) = true := by simpa using hq
      have hx1 : 0 < ((p, q) :: r).length := by simp
      have HN := Lib.hid (show ((p, q) :: r).length - 1 = r.length from rfl)
      generalize hn : ((p, q) :: r).length = n at *
      clear hn
      have HQ := Lib.hid hq; clear hq
      rcases hna with rfl | ⟨⟨p2, q2⟩, r2, rfl, hq2⟩
      · simp only [List.length_nil]
        go_wp2_with fail
        refine ⟨⟨_, _, _, _, [], r, out, _, t, rfl, by rw [HN.out], rfl, rfl, lya, by have := HN.out; omega, lda, by have := HN.out; omega, ra, hr', ho, hs', hb⟩, meas_b hx1 rfl⟩
      · obtain ⟨b2, o2, rfl, hbl2, d0, d1⟩ := ra 0 (by simp)
        simp only [Nat.zero_mul, Nat.add_zero, List.getElem_cons_zero] at d0 d1
        have hqq2 : (q2 == t) = false := by simpa using hq2
        have hx2 : 0 < ((p2, q2) :: r2).length := by simp
        generalize hn2 : ((p2, q2) :: r2).length = n2 at hx2 lya lda ⊢
        have HN2 := Lib.hid hn2
        clear hn2 hq2
        go_wp2_with fail
        refine ⟨⟨_, _, _, _, (p2, q2) :: r2, r, out, _, t, by rw [HN2.out], by rw [HN.out], rfl, rfl, by have := HN2.out; omega, by have := HN.out; omega, by have := HN2.out; omega, by have := HN.out; omega, ra, hr', ho, hs', hb⟩, meas_b hx1 rfl⟩
    · simp only [List.length_nil]
      obtain ⟨A, c, rfl, hc, hrd, hfr⟩ := ho.rdf
      have hfin := hs.stop (val_of_chk HA.out) (val_of_chk HB.out) hk0
      have hlen := val_len' hs.vo
      by_cases h4 : out.length ≤ 4096
      · go_wp2_with (refine (result_ok _ _ _ _ hc h4).mono ?_; rintro e w3 ⟨rfl, rfl⟩)
        try rw [Exit.noGoto_ret]
        go_ret2
        exact ⟨⟨out, hs.vo, hfin, .inl ⟨h4, A, rfl, hrd, hfr⟩⟩, hb⟩
      · go_wp2_with (refine (result_no _ _ _ _ (by omega) (by omega)).mono ?_; rintro e w3 ⟨rfl, rfl⟩)
        try rw [Exit.noGoto_ret]
        go_ret2
        exact ⟨⟨out, hs.vo, hfin, .inr ⟨by omega, rfl⟩⟩, hb⟩
    · have sta : Hid (∀ W, Rd W w.heap.size Ba ya → Calls Try.prog 70 #[.slice Ba ya.length da, .int .i64 t] W fun e w' => e = .returned (.tuple #[.bool (strIn ya t), .int .i64 (strEnd ya t)]) ∧ ∃ k, w' = W.drewN k) :=
        fun W h => stretch_any Ba _ da t ya W h (by omega)
      have stb : Hid (∀ W, Rd W w.heap.size Bb yb → Calls Try.prog 70 #[.slice Bb yb.length db, .int .i64 t] W fun e w' => e = .returned (.tuple #[.bool (strIn yb t), .int .i64 (strEnd yb t)]) ∧ ∃ k, w' = W.drewN k) :=
        fun W h => stretch_any Bb _ db t yb W h (by omega)
      obtain ⟨e1, e2, hs'⟩ := hs.step (notat hna) (notat hnb) hne
      have hlo := hs.lo
      have hvl := val_len' hs.vo
      generalize strIn ya t = ia at *
      generalize strEnd ya t = ea at *
      generalize strIn yb t = ib at *
      generalize strEnd yb t = eb at *
      clear hs
      rcases hna with rfl | ⟨⟨p2, q2⟩, r2, rfl, hq2⟩
      · rcases hnb with rfl | ⟨⟨p3, q3⟩, r3, rfl, hq3⟩
        · exact absurd ⟨rfl, rfl⟩ hne
        · clear hne
          obtain ⟨b, o, rfl, hbl, c0, c1⟩ := rb 0 (by simp)
          simp only [Nat.zero_mul, Nat.add_zero, List.getElem_cons_zero] at c0 c1
          have hqq : (q3 == t) = false := by simpa using hq3
          have hx1 : 0 < ((p3, q3) :: r3).length := by simp
          have hx3 : ((((p3, q3) :: r3).length : Int) == 0) = false := by simp; omega
          generalize hn : ((p3, q3) :: r3).length = n at *
          have HN := Lib.hid hn
          clear hn hq3
          simp only [List.length_nil] at sta lya lda ⊢
          by_cases hk : keep ia ib = true
          · rw [if_pos hk] at hs'
            have hkt : Hid (∀ W, Calls Try.prog 69 #[.bool ia, .bool ib] W fun e w' => e = .returned (.bool true) ∧ W = w') := fun W => (hF ia ib W).mono (by rw [hk]; exact fun _ _ h => h)
            clear hk
            rcases Int.lt_or_le eb ea with hm | hm
            · rw [Int.min_eq_right (by omega)] at hs' e1 e2
              go_wp2_with fail
              refine (sta.out _ ra).mono ?_
              rintro e w1 ⟨rfl, k1, rfl⟩
              go_wp2_with fail
              refine (stb.out _ (Rd.drewN rb _)).mono ?_
              rintro e w1 ⟨rfl, k2, rfl⟩
              go_wp2_with fail
              refine (hkt.out _).mono ?_
              rintro e w1 ⟨rfl, rfl⟩
              go_wp2_with fail
              refine (add_any w.heap.size _ out t eb _ (Own.drewN ho _) hb.size (by omega)).mono ?_
              rintro e w3 ⟨v', rfl, ho3, hg3⟩
              have hbb : Below w.heap.size wr w3 := hg3.below (below_drewN (Below.refl _ _) _) hb.size (fun k h => (ho.lt k h).1)
              have hb3 : Below w.heap.size w w3 := hb.trans hbb
              clear hg3
              go_wp2_with fail
              refine ⟨⟨_, _, _, _, [], (p3, q3) :: r3, _, v', eb, rfl, by rw [HN.out], rfl, rfl, by simp, by have := HN.out; omega, by simp, by have := HN.out; omega, ra.below hbb, rb.below hbb, ho3, hs', hb3⟩, meas_lt hlo e1 e2⟩
            · rw [Int.min_eq_left (by omega)] at hs' e1 e2
              go_wp2_with fail
              refine (sta.out _ ra).mono ?_
              rintro e w1 ⟨rfl, k1, rfl⟩
              go_wp2_with fail
              refine (stb.out _ (Rd.drewN rb _)).mono ?_
              rintro e w1 ⟨rfl, k2, rfl⟩
              go_wp2_with fail
              refine (hkt.out _).mono ?_
              rintro e w1 ⟨rfl, rfl⟩
              go_wp2_with fail
              refine (add_any w.heap.size _ out t ea _ (Own.drewN ho _) hb.size (by omega)).mono ?_
              rintro e w3 ⟨v', rfl, ho3, hg3⟩
              have hbb : Below w.heap.size wr w3 := hg3.below (below_drewN (Below.refl _ _) _) hb.size (fun k h => (ho.lt k h).1)
              have hb3 : Below w.heap.size w w3 := hb.trans hbb
              clear hg3
              go_wp2_with fail
              refine ⟨⟨_, _, _, _, [], (p3, q3) :: r3, _, v', ea, rfl, by rw [HN.out], rfl, rfl, by simp, by have := HN.out; omega, by simp, by have := HN.out; omega, ra.below hbb, rb.below hbb, ho3, hs', hb3⟩, meas_lt hlo e1 e2⟩
          · rw [if_neg hk] at hs'
            have hkt : Hid (∀ W, Calls Try.prog 69 #[.bool ia, .bool ib] W fun e w' => e = .returned (.bool false) ∧ W = w') := fun W => (hF ia ib W).mono (by rw [Bool.eq_false_iff.2 hk]; exact fun _ _ h => h)
            clear hk
            rcases Int.lt_or_le eb ea with hm | hm
            · rw [Int.min_eq_right (by omega)] at hs' e1 e2
              go_wp2_with fail
              refine (sta.out _ ra).mono ?_
              rintro e w1 ⟨rfl, k1, rfl⟩
              go_wp2_with fail
              refine (stb.out _ (Rd.drewN rb _)).mono ?_
              rintro e w1 ⟨rfl, k2, rfl⟩
              go_wp2_with fail
              refine (hkt.out _).mono ?_
              rintro e w1 ⟨rfl, rfl⟩
              go_wp2_with fail
              refine ⟨⟨_, _, _, _, [], (p3, q3) :: r3, out, _, eb, rfl, by rw [HN.out], rfl, rfl, by simp, by have := HN.out; omega, by simp, by have := HN.out; omega, Rd.drewN ra _, Rd.drewN rb _, Own.drewN ho _, hs', below_drewN hb _⟩, meas_lt hlo e1 e2⟩
            · rw [Int.min_eq_left (by omega)] at hs' e1 e2
              go_wp2_with fail
              refine (sta.out _ ra).mono ?_
              rintro e w1 ⟨rfl, k1, rfl⟩
              go_wp2_with fail
              refine (stb.out _ (Rd.drewN rb _)).mono ?_
              rintro e w1 ⟨rfl, k2, rfl⟩
              go_wp2_with fail
              refine (hkt.out _).mono ?_
              rintro e w1 ⟨rfl, rfl⟩
              go_wp2_with fail
              refine ⟨⟨_, _, _, _, [], (p3, q3) :: r3, out, _, ea, rfl, by rw [HN.out], rfl, rfl, by simp, by have := HN.out; omega, by simp, by have := HN.out; omega, Rd.drewN ra _, Rd.drewN rb _, Own.drewN ho _, hs', below_drewN hb _⟩, meas_lt hlo e1 e2⟩
      · rcases hnb with rfl | ⟨⟨p3, q3⟩, r3, rfl, hq3⟩
        · clear hne
          obtain ⟨b2, o2, rfl, hbl2, d0, d1⟩ := ra 0 (by simp)
          simp only [Nat.zero_mul, Nat.add_zero, List.getElem_cons_zero] at d0 d1
          have hqq2 : (q2 == t) = false := by simpa using hq2
          have hx2 : 0 < ((p2, q2) :: r2).length := by simp
          have hx4 : ((((p2, q2) :: r2).length : Int) == 0) = false := by simp; omega
          generalize hn2 : ((p2, q2) :: r2).length = n2 at *
          have HN2 := Lib.hid hn2
          clear hn2 hq2
          simp only [List.length_nil] at stb lyb ldb ⊢
          by_cases hk : keep ia ib = true
          · rw [if_pos hk] at hs'
            have hkt : Hid (∀ W, Calls Try.prog 69 #[.bool ia, .bool ib] W fun e w' => e = .returned (.bool true) ∧ W = w') := fun W => (hF ia ib W).mono (by rw [hk]; exact fun _ _ h => h)
            clear hk
            rcases Int.lt_or_le eb ea with hm | hm
            · rw [Int.min_eq_right (by omega)] at hs' e1 e2
              go_wp2_with fail
              refine (sta.out _ ra).mono ?_
              rintro e w1 ⟨rfl, k1, rfl⟩
              go_wp2_with fail
              refine (stb.out _ (Rd.drewN rb _)).mono ?_
              rintro e w1 ⟨rfl, k2, rfl⟩
              go_wp2_with fail
              refine (hkt.out _).mono ?_
              rintro e w1 ⟨rfl, rfl⟩
              go_wp2_with fail
              refine (add_any w.heap.size _ out t eb _ (Own.drewN ho _) hb.size (by omega)).mono ?_
              rintro e w3 ⟨v', rfl, ho3, hg3⟩
              have hbb : Below w.heap.size wr w3 := hg3.below (below_drewN (Below.refl _ _) _) hb.size (fun k h => (ho.lt k h).1)
              have hb3 : Below w.heap.size w w3 := hb.trans hbb
              clear hg3
              go_wp2_with fail
              refine ⟨⟨_, _, _, _, (p2, q2) :: r2, [], _, v', eb, by rw [HN2.out], rfl, rfl, rfl, by have := HN2.out; omega, by simp, by have := HN2.out; omega, by simp, ra.below hbb, rb.below hbb, ho3, hs', hb3⟩, meas_lt hlo e1 e2⟩
            · rw [Int.min_eq_left (by omega)] at hs' e1 e2
              go_wp2_with fail
              refine (sta.out _ ra).mono ?_
              rintro e w1 ⟨rfl, k1, rfl⟩
              go_wp2_with fail
              refine (stb.out _ (Rd.drewN rb _)).mono ?_
              rintro e w1 ⟨rfl, k2, rfl⟩
              go_wp2_with fail
              refine (hkt.out _).mono ?_
              rintro e w1 ⟨rfl, rfl⟩
              go_wp2_with fail
              refine (add_any w.heap.size _ out t ea _ (Own.drewN ho _) hb.size (by omega)).mono ?_
              rintro e w3 ⟨v', rfl, ho3, hg3⟩
              have hbb : Below w.heap.size wr w3 := hg3.below (below_drewN (Below.refl _ _) _) hb.size (fun k h => (ho.lt k h).1)
              have hb3 : Below w.heap.size w w3 := hb.trans hbb
              clear hg3
              go_wp2_with fail
              refine ⟨⟨_, _, _, _, (p2, q2) :: r2, [], _, v', ea, by rw [HN2.out], rfl, rfl, rfl, by have := HN2.out; omega, by simp, by have := HN2.out; omega, by simp, ra.below hbb, rb.below hbb, ho3, hs', hb3⟩, meas_lt hlo e1 e2⟩
          · rw [if_neg hk] at hs'
            have hkt : Hid (∀ W, Calls Try.prog 69 #[.bool ia, .bool ib] W fun e w' => e = .returned (.bool false) ∧ W = w') := fun W => (hF ia ib W).mono (by rw [Bool.eq_false_iff.2 hk]; exact fun _ _ h => h)
            clear hk
            rcases Int.lt_or_le eb ea with hm | hm
            · rw [Int.min_eq_right (by omega)] at hs' e1 e2
              go_wp2_with fail
              refine (sta.out _ ra).mono ?_
              rintro e w1 ⟨rfl, k1, rfl⟩
              go_wp2_with fail
              refine (stb.out _ (Rd.drewN rb _)).mono ?_
              rintro e w1 ⟨rfl, k2, rfl⟩
              go_wp2_with fail
              refine (hkt.out _).mono ?_
              rintro e w1 ⟨rfl, rfl⟩
              go_wp2_with fail
              refine ⟨⟨_, _, _, _, (p2, q2) :: r2, [], out, _, eb, by rw [HN2.out], rfl, rfl, rfl, by have := HN2.out; omega, by simp, by have := HN2.out; omega, by simp, Rd.drewN ra _, Rd.drewN rb _, Own.drewN ho _, hs', below_drewN hb _⟩, meas_lt hlo e1 e2⟩
            · rw [Int.min_eq_left (by omega)] at hs' e1 e2
              go_wp2_with fail
              refine (sta.out _ ra).mono ?_
              rintro e w1 ⟨rfl, k1, rfl⟩
              go_wp2_with fail
              refine (stb.out _ (Rd.drewN rb _)).mono ?_
              rintro e w1 ⟨rfl, k2, rfl⟩
              go_wp2_with fail
              refine (hkt.out _).mono ?_
              rintro e w1 ⟨rfl, rfl⟩
              go_wp2_with fail
              refine ⟨⟨_, _, _, _, (p2, q2) :: r2, [], out, _, ea, by rw [HN2.out], rfl, rfl, rfl, by have := HN2.out; omega, by simp, by have := HN2.out; omega, by simp, Rd.drewN ra _, Rd.drewN rb _, Own.drewN ho _, hs', below_drewN hb _⟩, meas_lt hlo e1 e2⟩
        · clear hne
          obtain ⟨b2, o2, rfl, hbl2, d0, d1⟩ := ra 0 (by simp)
          simp only [Nat.zero_mul, Nat.add_zero, List.getElem_cons_zero] at d0 d1
          have hqq2 : (q2 == t) = false := by simpa using hq2
          have hx2 : 0 < ((p2, q2) :: r2).length := by simp
          have hx4 : ((((p2, q2) :: r2).length : Int) == 0) = false := by simp; omega
          generalize hn2 : ((p2, q2) :: r2).length = n2 at *
          have HN2 := Lib.hid hn2
          clear hn2 hq2
          obtain ⟨b, o, rfl, hbl, c0, c1⟩ := rb 0 (by simp)
          simp only [Nat.zero_mul, Nat.add_zero, List.getElem_cons_zero] at c0 c1
          have hqq : (q3 == t) = false := by simpa using hq3
          have hx1 : 0 < ((p3, q3) :: r3).length := by simp
          have hx3 : ((((p3, q3) :: r3).length : Int) == 0) = false := by simp; omega
          generalize hn : ((p3, q3) :: r3).length = n at *
          have HN := Lib.hid hn
          clear hn hq3
          by_cases hk : keep ia ib = true
          · rw [if_pos hk] at hs'
            have hkt : Hid (∀ W, Calls Try.prog 69 #[.bool ia, .bool ib] W fun e w' => e = .returned (.bool true) ∧ W = w') := fun W => (hF ia ib W).mono (by rw [hk]; exact fun _ _ h => h)
            clear hk
            rcases Int.lt_or_le eb ea with hm | hm
            · rw [Int.min_eq_right (by omega)] at hs' e1 e2
              go_wp2_with fail
              refine (sta.out _ ra).mono ?_
              rintro e w1 ⟨rfl, k1, rfl⟩
              go_wp2_with fail
              refine (stb.out _ (Rd.drewN rb _)).mono ?_
              rintro e w1 ⟨rfl, k2, rfl⟩
              go_wp2_with fail
              refine (hkt.out _).mono ?_
              rintro e w1 ⟨rfl, rfl⟩
              go_wp2_with fail
              refine (add_any w.heap.size _ out t eb _ (Own.drewN ho _) hb.size (by omega)).mono ?_
              rintro e w3 ⟨v', rfl, ho3, hg3⟩
              have hbb : Below w.heap.size wr w3 := hg3.below (below_drewN (Below.refl _ _) _) hb.size (fun k h => (ho.lt k h).1)
              have hb3 : Below w.heap.size w w3 := hb.trans hbb
              clear hg3
              go_wp2_with fail
              refine ⟨⟨_, _, _, _, (p2, q2) :: r2, (p3, q3) :: r3, _, v', eb, by rw [HN2.out], by rw [HN.out], rfl, rfl, by have := HN2.out; omega, by have := HN.out; omega, by have := HN2.out; omega, by have := HN.out; omega, ra.below hbb, rb.below hbb, ho3, hs', hb3⟩, meas_lt hlo e1 e2⟩
            · rw [Int.min_eq_left (by omega)] at hs' e1 e2
              go_wp2_with fail
              refine (sta.out _ ra).mono ?_
              rintro e w1 ⟨rfl, k1, rfl⟩
              go_wp2_with fail
              refine (stb.out _ (Rd.drewN rb _)).mono ?_
              rintro e w1 ⟨rfl, k2, rfl⟩
              go_wp2_with fail
              refine (hkt.out _).mono ?_
              rintro e w1 ⟨rfl, rfl⟩
              go_wp2_with fail
              refine (add_any w.heap.size _ out t ea _ (Own.drewN ho _) hb.size (by omega)).mono ?_
              rintro e w3 ⟨v', rfl, ho3, hg3⟩
              have hbb : Below w.heap.size wr w3 := hg3.below (below_drewN (Below.refl _ _) _) hb.size (fun k h => (ho.lt k h).1)
              have hb3 : Below w.heap.size w w3 := hb.trans hbb
              clear hg3
              go_wp2_with fail
              refine ⟨⟨_, _, _, _, (p2, q2) :: r2, (p3, q3) :: r3, _, v', ea, by rw [HN2.out], by rw [HN.out], rfl, rfl, by have := HN2.out; omega, by have := HN.out; omega, by have := HN2.out; omega, by have := HN.out; omega, ra.below hbb, rb.below hbb, ho3, hs', hb3⟩, meas_lt hlo e1 e2⟩
          · rw [if_neg hk] at hs'
            have hkt : Hid (∀ W, Calls Try.prog 69 #[.bool ia, .bool ib] W fun e w' => e = .returned (.bool false) ∧ W = w') := fun W => (hF ia ib W).mono (by rw [Bool.eq_false_iff.2 hk]; exact fun _ _ h => h)
            clear hk
            rcases Int.lt_or_le eb ea with hm | hm
            · rw [Int.min_eq_right (by omega)] at hs' e1 e2
              go_wp2_with fail
              refine (sta.out _ ra).mono ?_
              rintro e w1 ⟨rfl, k1, rfl⟩
              go_wp2_with fail
              refine (stb.out _ (Rd.drewN rb _)).mono ?_
              rintro e w1 ⟨rfl, k2, rfl⟩
              go_wp2_with fail
              refine (hkt.out _).mono ?_
              rintro e w1 ⟨rfl, rfl⟩
              go_wp2_with fail
              refine ⟨⟨_, _, _, _, (p2, q2) :: r2, (p3, q3) :: r3, out, _, eb, by rw [HN2.out], by rw [HN.out], rfl, rfl, by have := HN2.out; omega, by have := HN.out; omega, by have := HN2.out; omega, by have := HN.out; omega, Rd.drewN ra _, Rd.drewN rb _, Own.drewN ho _, hs', below_drewN hb _⟩, meas_lt hlo e1 e2⟩
            · rw [Int.min_eq_left (by omega)] at hs' e1 e2
              go_wp2_with fail
              refine (sta.out _ ra).mono ?_
              rintro e w1 ⟨rfl, k1, rfl⟩
              go_wp2_with fail
              refine (stb.out _ (Rd.drewN rb _)).mono ?_
              rintro e w1 ⟨rfl, k2, rfl⟩
              go_wp2_with fail
              refine (hkt.out _).mono ?_
              rintro e w1 ⟨rfl, rfl⟩
              go_wp2_with fail
              refine ⟨⟨_, _, _, _, (p2, q2) :: r2, (p3, q3) :: r3, out, _, ea, by rw [HN2.out], by rw [HN.out], rfl, rfl, by have := HN2.out; omega, by have := HN.out; omega, by have := HN2.out; omega, by have := HN.out; omega, Rd.drewN ra _, Rd.drewN rb _, Own.drewN ho _, hs', below_drewN hb _⟩, meas_lt hlo e1 e2⟩
end Go.Proofs.Ytdejdnkkbpmmlaa.S
