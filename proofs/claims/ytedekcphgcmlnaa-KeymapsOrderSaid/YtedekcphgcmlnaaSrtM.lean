/- Sorting numbers: the whole. -/
import Derived.Test.YtedekcphgcmlnaaSrtL
import Derived.Test.YtedekcphgcmlnaaSrtG
import Derived.Sort.AssemblyPlain
namespace Go.Proofs.Ytedekcphgcmlnaa
open Go.RowKit Go.Sort

theorem SI.trans {w w1 w2 : World} {g n : Nat} {d1 d2 : Array Int} (h : SI w w1 g n d1) (k : SI w1 w2 g n d2) : SI w w2 g n d2 := ⟨k.row, h.fr.trans k.fr, k.size⟩
/-- the part [a, b) has been sorted -/
def PdqC (w : World) (g n a b : Nat) (d : Array Int) (e : Ending) (w' : World) : Prop := e = .returned (.tuple #[]) ∧ ∃ d', SI w w' g n d' ∧ PermIn a b d d' ∧ SortedIn ltInt a b d'
/-- what the loop keeps: what sorts [a, b) of d sorts [a0, b0) of d0 -/
structure PdL (w0 w : World) (g n a0 b0 : Nat) (d0 : Array Int) (a b : Nat) (d : Array Int) : Prop where
  si : SI w0 w g n d
  ab : a ≤ b
  bn : b ≤ n
  bel : Go.Sort.Below ltInt a b d
  fin : ∀ d', PermIn a b d d' → SortedIn ltInt a b d' → PermIn a0 b0 d0 d' ∧ SortedIn ltInt a0 b0 d'
theorem PdL.perm {w0 w w' : World} {g n a0 b0 : Nat} {d0 : Array Int} {a b : Nat} {d d2 : Array Int} (h : PdL w0 w g n a0 b0 d0 a b d) (k : SI w w' g n d2) (hp : PermIn a b d d2) : PdL w0 w' g n a0 b0 d0 a b d2 :=
  ⟨h.si.trans k, h.ab, h.bn, h.bel.perm (by rw [h.si.size]; exact h.bn) hp, fun d' h1 h2 => h.fin d' (permIn_trans _ _ _ _ _ hp h1) h2⟩
theorem PdL.drewN {w0 w : World} {g n a0 b0 : Nat} {d0 : Array Int} {a b : Nat} {d : Array Int} (h : PdL w0 w g n a0 b0 d0 a b d) (k : Nat) : PdL w0 (w.drewN k) g n a0 b0 d0 a b d :=
  ⟨h.si.drewN k, h.ab, h.bn, h.bel, h.fin⟩
theorem PdL.eq {w0 w w' : World} {g n a0 b0 : Nat} {d0 : Array Int} {a b x mid : Nat} {d d2 : Array Int} (h : PdL w0 w g n a0 b0 d0 a b d) (k : SI w w' g n d2) (h0 : 0 < a) (h1 : a ≤ x) (h2 : x < b) (hl : ltInt d[a - 1]! d[x]! = false)
    (hx : partitionEqual ltInt d a b x = (mid, d2)) : a < mid ∧ mid ≤ b ∧ PdL w0 w' g n a0 b0 d0 mid b d2 := by
  obtain ⟨r1, r2, _, r4, r5⟩ := round_eq swo_ltInt (partitionEqual_holds ltInt) h0 h1 h2 (by rw [h.si.size]; exact h.bn) h.bel hl hx
  exact ⟨r1, r2, h.si.trans k, r2, h.bn, r4, fun R e1 e2 => h.fin R (r5 R e1 e2).1 (r5 R e1 e2).2⟩
/-- behind the partition -/
structure PdM (w0 w : World) (g n a0 b0 : Nat) (d0 : Array Int) (a mid b : Nat) (d : Array Int) : Prop where
  si : SI w0 w g n d
  lo : a ≤ mid
  hi : mid < b
  bn : b ≤ n
  belL : Go.Sort.Below ltInt a mid d
  belR : Go.Sort.Below ltInt (mid + 1) b d
  left : ∀ w' L, SI w w' g n L → PermIn a mid d L → SortedIn ltInt a mid L → PdL w0 w' g n a0 b0 d0 (mid + 1) b L
  right : ∀ w' L, SI w w' g n L → PermIn (mid + 1) b d L → SortedIn ltInt (mid + 1) b L → PdL w0 w' g n a0 b0 d0 a mid L
theorem PdL.part {w0 w w' : World} {g n a0 b0 : Nat} {d0 : Array Int} {a b x mid : Nat} {ap : Bool} {d d2 : Array Int} (h : PdL w0 w g n a0 b0 d0 a b d) (k : SI w w' g n d2) (h1 : a ≤ x) (h2 : x < b)
    (hx : partition ltInt d a b x = (mid, ap, d2)) : PdM w0 w' g n a0 b0 d0 a mid b d2 := by
  obtain ⟨r1, r2, _, r4, r5, r6, r7⟩ := round_part swo_ltInt (partition_holds ltInt) h1 h2 (by rw [h.si.size]; exact h.bn) h.bel hx
  refine ⟨h.si.trans k, r1, r2, h.bn, r4, r5, fun w'' L kk e1 e2 => ?_, fun w'' L kk e1 e2 => ?_⟩
  · obtain ⟨q1, q2⟩ := r6 L e1 e2
    exact ⟨(h.si.trans k).trans kk, r2, h.bn, q1, fun R e1 e2 => h.fin R (q2 R e1 e2).1 (q2 R e1 e2).2⟩
  · obtain ⟨q1, q2⟩ := r7 L e1 e2
    exact ⟨(h.si.trans k).trans kk, r1, Nat.le_trans (Nat.le_of_lt r2) h.bn, q1, fun R e1 e2 => h.fin R (q2 R e1 e2).1 (q2 R e1 e2).2⟩
theorem PdL.done {w0 w w' : World} {g n a0 b0 : Nat} {d0 : Array Int} {a b : Nat} {d d2 : Array Int} (h : PdL w0 w g n a0 b0 d0 a b d) (k : SI w w' g n d2) (hp : PermIn a b d d2) (hs : SortedIn ltInt a b d2) :
    PdqC w0 g n a0 b0 d0 (.returned (.tuple #[])) w' := ⟨rfl, d2, h.si.trans k, (h.fin d2 hp hs).1, (h.fin d2 hp hs).2⟩
set_option maxRecDepth 100000 in
set_option maxHeartbeats 16000000 in
theorem pdq_round {w : World} {g n cap a0 b0 : Nat} {d0 : Array Int} (lim : Nat) (hl : lim ≤ 64) (h : RA w g d0) (hn : d0.size = n) (hab : a0 ≤ b0) (hb : b0 ≤ n) (hn2 : n ≤ 1000000) (hbel : Go.Sort.Below ltInt a0 b0 d0)
    (IH : ∀ (W : World) (a b l : Nat) (d : Array Int), b - a < b0 - a0 → l ≤ 64 → RA W g d → d.size = n → a ≤ b → b ≤ n → Go.Sort.Below ltInt a b d →
      Calls Try.prog 31 #[.slice (some ⟨g, 0, none⟩) n cap, .int .i64 a, .int .i64 b, .int .i64 l] W (PdqC W g n a b d)) :
    Calls Try.prog 31 #[.slice (some ⟨g, 0, none⟩) n cap, .int .i64 a0, .int .i64 b0, .int .i64 lim] w (PdqC w g n a0 b0 d0) := by
  have H0 : Hid (PdL w w g n a0 b0 d0 a0 b0 d0) := Lib.hid ⟨⟨h, Fr.refl _ _ _, hn⟩, hab, hb, hbel, fun d' h1 h2 => ⟨h1, h2⟩⟩
  have H34 := Lib.hid (fun W a b d (p : PdL w W g n a0 b0 d0 a b d) => insertion_any (cap := cap) p.si.row p.si.size p.ab p.bn hn2)
  have H35 := Lib.hid (fun W a b d (p : PdL w W g n a0 b0 d0 a b d) (h : a < b) => heap_any (cap := cap) p.si.row p.si.size h p.bn hn2)
  have H36 := Lib.hid (fun W a b d (p : PdL w W g n a0 b0 d0 a b d) (h : a + 12 < b) => break_any (cap := cap) p.si.row p.si.size h p.bn hn2)
  have H37 := Lib.hid (fun W a b d (p : PdL w W g n a0 b0 d0 a b d) (h : a + 12 < b) => pivot_any (cap := cap) p.si.row p.si.size h p.bn hn2)
  have H38 := Lib.hid (fun W a b d (p : PdL w W g n a0 b0 d0 a b d) (h : a < b) => reverse_any (cap := cap) p.si.row p.si.size h p.bn hn2)
  have H39 := Lib.hid (fun W a b d (p : PdL w W g n a0 b0 d0 a b d) (h : a < b) => partial_any (cap := cap) p.si.row p.si.size h p.bn hn2)
  have H41 := Lib.hid (fun W a b d x (p : PdL w W g n a0 b0 d0 a b d) (h1 : a ≤ x) (h2 : x < b) => partEq_any (cap := cap) p.si.row p.si.size h1 h2 p.bn hn2)
  have H42 := Lib.hid (fun W a b d x (p : PdL w W g n a0 b0 d0 a b d) (h1 : a ≤ x) (h2 : x < b) => partition_any (cap := cap) p.si.row p.si.size h1 h2 p.bn hn2)
  have HI := Lib.hid IH
  have hb0 : b0 ≤ 1000000 := by omega
  clear h hn hbel IH
  go_enter Try.func31, Try.ntmps31
  go_upto_block 0 with fail
  go_wp2_with fail
  go_loopg [1, 2, 3, 8, 9] (b0 - a0) (fun k v1 v2 v3 v8 v9 wr => ∃ (a b l : Nat) (wb wp : Bool) (d : Array Int), v1 = .int .i64 a ∧ v2 = .int .i64 b ∧ v3 = .int .i64 l ∧ v8 = .bool wb ∧ v9 = .bool wp ∧ k = b - a ∧ l ≤ 64 ∧ a0 ≤ a ∧ b ≤ b0 ∧ Hid (PdL w wr g n a0 b0 d0 a b d))
  case atStart => exact ⟨a0, b0, lim, true, true, d0, rfl, rfl, rfl, rfl, rfl, rfl, hl, Nat.le_refl _, Nat.le_refl _, H0⟩
  case round =>
    clear H0 hl hab hb
    obtain ⟨a, b, l, wb, wp, d, rfl, rfl, rfl, rfl, rfl, rfl, hl, ha0, hb00, HP⟩ := hrel
    have hab : a ≤ b := HP.out.ab
    have hbn : b ≤ n := HP.out.bn
    obtain ⟨ln, hln⟩ : ∃ ln : Nat, (b : Int) - (a : Int) = (ln : Int) := ⟨b - a, by omega⟩
    have hln2 : ln ≤ 1000000 := by omega
    by_cases h12 : b - a ≤ 12
    · have h12' : (ln : Int) ≤ 12 := by omega
      have C := Lib.hid (H34.out _ _ _ _ HP.out)
      have HS := Lib.hid (insertionSort_holds swo_ltInt d a b hab (by rw [HP.out.si.size]; exact hbn))
      clear H34 H35 H36 H37 H38 H39 H41 H42 HI
      go_wp2_with fail
      refine C.out.mono ?_
      rintro e w1 ⟨rfl, hs⟩
      have HF := Lib.hid (HP.out.done hs HS.out.1 HS.out.2)
      clear hs C HS HP
      go_wp2_with fail
      refine bodyPost_ret (results_none rfl _ _ _) rfl ?_
      exact HF.out
    · have h12' : ¬ ((ln : Int) ≤ 12) := by omega
      have h13 : a + 12 < b := by omega
      by_cases hl0 : l = 0
      · subst hl0
        have C := Lib.hid (H35.out _ _ _ _ HP.out (by omega))
        have HS := Lib.hid (heapSort_holds swo_ltInt d a b hab (by rw [HP.out.si.size]; exact hbn))
        clear H34 H35 H36 H37 H38 H39 H41 H42 HI
        go_wp2_with fail
        refine C.out.mono ?_
        rintro e w1 ⟨rfl, hs⟩
        have HF := Lib.hid (HP.out.done hs HS.out.1 HS.out.2)
        clear hs C HS HP
        go_wp2_with fail
        refine bodyPost_ret (results_none rfl _ _ _) rfl ?_
        exact HF.out
      · have hl1 : ((l : Int) == 0) = false := by simp; omega
        clear H34 H35
        go_upto_if 35 with fail
        go_cut [3] from 19 to 133 (fun s wx => ∃ (l2 : Nat) (d2 : Array Int), s = .int .i64 l2 ∧ l2 ≤ 64 ∧ Hid (PdL w wx g n a0 b0 d0 a b d2))
        case first =>
          clear H37 H38 H39 H41 H42 HI
          cases wb with
          | true =>
            go_wp2_with fail
            go_meet
            exact ⟨l, d, rfl, hl, HP⟩
          | false =>
            have C := Lib.hid (H36.out _ _ _ _ HP.out h13)
            go_wp2_with fail
            refine C.out.mono ?_
            rintro e w1 ⟨rfl, d2, hs, hp⟩
            have HP2 := Lib.hid (HP.out.perm hs hp)
            clear hs hp C HP H36
            go_wp2_with fail
            go_meet
            exact ⟨l - 1, d2, by go_num, by omega, HP2⟩
        case rest =>
        obtain ⟨l2, d2, rfl, hl2, HP2⟩ := hcut
        have C := Lib.hid (H37.out _ _ _ _ HP2.out h13)
        clear HP H36 hl hl0 hl1 h12 h12' H37
        go_wp2_with fail
        refine C.out.mono ?_
        rintro e w1 ⟨x, hh, rfl, hx1, hx2, hh2, hs⟩
        have HP3 := Lib.hid (HP2.out.perm hs (permIn_refl _ _ _))
        clear hs C HP2
        go_upto_if 50 with fail
        go_cut [11, 12] from 19 to 133 (fun s t wx => ∃ (x2 h2 : Nat) (d3 : Array Int), s = .int .i64 x2 ∧ t = .int .i64 h2 ∧ a ≤ x2 ∧ x2 < b ∧ h2 ≤ 2 ∧ Hid (PdL w wx g n a0 b0 d0 a b d3))
        case first =>
          clear H39 H41 H42 HI
          by_cases hh3 : hh = 2
          · subst hh3
            obtain ⟨y, hy⟩ : ∃ y : Nat, (x : Int) - (a : Int) = (y : Int) := ⟨x - a, by omega⟩
            obtain ⟨x2, hx3⟩ : ∃ x2 : Nat, (b : Int) - 1 - (y : Int) = (x2 : Int) := ⟨b - 1 - y, by omega⟩
            have hx4 : a ≤ x2 ∧ x2 < b := by omega
            have HX4 := Lib.hid hx4
            have C := Lib.hid (H38.out _ _ _ _ HP3.out (by omega))
            clear hx4
            go_wp2_with fail
            refine C.out.mono ?_
            rintro e w2 ⟨rfl, d3, hs, hp⟩
            have HP4 := Lib.hid (HP3.out.perm hs hp)
            clear hs hp C HP3 H38
            go_wp2_with fail
            go_meet
            exact ⟨x2, 1, d3, rfl, rfl, HX4.out.1, HX4.out.2, by omega, HP4⟩
          · have hh4 : ((hh : Int) == 2) = false := by simp; omega
            go_wp2_with fail
            go_meet
            exact ⟨x, hh, _, rfl, rfl, hx1, hx2, hh2, HP3⟩
        case rest =>
        obtain ⟨x2, h2, d3, rfl, rfl, hx3, hx4, hh3, HP4⟩ := hcut
        clear HP3 hx1 hx2 hh2 H38
        go_upto_region 15 with fail
        go_cut [68] from 19 to 133 (fun s wx => ∃ t : Bool, s = .bool t ∧ Hid (PdL w wx g n a0 b0 d0 a b d3))
        case first =>
          clear H39 H41 H42 HI
          have hq : ((h2 : Int) == 1) = decide (h2 = 1) := by by_cases hh : h2 = 1 <;> simp [hh]; omega
          generalize decide (h2 = 1) = hb at hq
          cases wb <;> cases wp
          all_goals (
            go_wp2_with fail
            go_meet
            exact ⟨_, rfl, HP4⟩)
        case rest =>
        obtain ⟨t, rfl, HP5⟩ := hcut
        clear HP4
        go_upto_if 68 with fail
        go_cut [12] from 19 to 133 (fun _ wx => ∃ (d4 : Array Int), Hid (PdL w wx g n a0 b0 d0 a b d4))
        case first =>
          clear H41 H42 HI
          cases t with
          | false =>
            go_wp2_with fail
            go_meet
            exact ⟨_, HP5⟩
          | true =>
            have C := Lib.hid (H39.out _ _ _ _ HP5.out (by omega))
            have HS := Lib.hid (partialInsertionSort_holds (lt := ltInt) swo_ltInt d3 a b (by omega) (by rw [HP5.out.si.size]; exact HP5.out.bn) HP5.out.bel)
            obtain ⟨⟨d4, f⟩, hR⟩ : ∃ R, partialInsertionSort ltInt d3 a b = R := ⟨_, rfl⟩
            rw [hR] at C HS
            clear hR H39
            cases f with
            | false =>
              go_wp2_with fail
              refine C.out.mono ?_
              rintro e w2 ⟨rfl, hs⟩
              have HP6 := Lib.hid (HP5.out.perm hs HS.out.1)
              clear hs HP5 HS C
              go_wp2_with fail
              go_meet
              exact ⟨_, HP6⟩
            | true =>
              go_wp2_with fail
              refine C.out.mono ?_
              rintro e w2 ⟨rfl, hs⟩
              have HF := Lib.hid (HP5.out.done hs HS.out.1 (HS.out.2 (by trivial)))
              clear hs HP5 HS C
              go_wp2_with fail
              refine bodyPost_ret (results_none rfl _ _ _) rfl ?_
              exact HF.out
        case rest =>
        obtain ⟨d4, HP6⟩ := hcut
        clear HP5 H39 hh3
        go_upto_region 17 with fail
        go_cut [87] from 19 to 133 (fun s wx => ∃ t : Bool, s = .bool t ∧ (t = true → 0 < a ∧ ltInt d4[a - 1]! d4[x2]! = false) ∧ Hid (PdL w wx g n a0 b0 d0 a b d4))
        case first =>
          clear H41 H42 HI
          rcases a with _ | a1
          · have hd : decide ((0 : Int) < 0) = false := by simp
            go_quiet (fail)
            go_wp2_with fail
            go_meet
            exact ⟨_, rfl, (by intro h; cases h), Lib.hid (HP6.out.drewN _)⟩
          · have hd : decide ((0 : Int) < (a1 : Int) + 1) = true := by simp
            obtain ⟨p, q, hp, hq, y0, y1, y2, y3, HL, _⟩ := si_two HP6.out.si a1 x2 (by omega) (by omega)
            have hn3 : a1 < n := by omega
            have hn4 : x2 < n := by omega
            cases huv : ltInt p q with
            | true =>
              rw [huv] at HL
              clear huv hp hq
              go_quiet ((go_at_call 40; exact Calls.quiet_of_same (HL.out _)))
              go_wp2_with fail
              go_meet
              exact ⟨_, rfl, (by intro h; cases h), Lib.hid (HP6.out.drewN _)⟩
            | false =>
              rw [huv] at HL
              have HUV : Hid (ltInt d4[a1 + 1 - 1]! d4[x2]! = false) := Lib.hid (by rw [Nat.add_sub_cancel, hp, hq, huv])
              clear huv hp hq
              go_quiet ((go_at_call 40; exact Calls.quiet_of_same (HL.out _)))
              go_wp2_with fail
              go_meet
              exact ⟨_, rfl, (fun _ => ⟨by omega, HUV.out⟩), Lib.hid (HP6.out.drewN _)⟩
        case rest =>
        obtain ⟨t, rfl, ht, HP7⟩ := hcut
        have HT := Lib.hid ht
        clear HP6 ht
        cases t with
        | true =>
          have C := Lib.hid (H41.out _ _ _ _ _ HP7.out hx3 hx4)
          clear H41 H42 HI
          go_wp2_with fail
          refine C.out.mono ?_
          rintro e w2 ⟨mid, d5, hpe, rfl, hs⟩
          have HQ := Lib.hid (HP7.out.eq hs (HT.out (by trivial)).1 hx3 hx4 (HT.out (by trivial)).2 hpe)
          clear hs hpe HP7 HT C
          go_wp2_with fail
          go_roundg (b - mid)
          case measure => have := HQ.out.1; have := HQ.out.2.1; omega
          case rel => exact ⟨mid, b, l2, _, _, d5, rfl, rfl, rfl, rfl, rfl, rfl, hl2, by have := HQ.out.1; omega, hb00, Lib.hid HQ.out.2.2⟩
        | false =>
          have C := Lib.hid (H42.out _ _ _ _ _ HP7.out hx3 hx4)
          clear H41 H42
          go_wp2_with fail
          refine C.out.mono ?_
          rintro e w2 ⟨mid, ap, d5, hpe, rfl, hs⟩
          have HM := Lib.hid (HP7.out.part hs hx3 hx4 hpe)
          have hm1 := HM.out.lo
          have hm2 := HM.out.hi
          clear hs hpe HP7 HT C
          obtain ⟨Lf, hLf⟩ : ∃ Lf : Nat, (mid : Int) - (a : Int) = (Lf : Int) := ⟨mid - a, by omega⟩
          obtain ⟨Rt, hRt⟩ : ∃ Rt : Nat, (b : Int) - (mid : Int) = (Rt : Int) := ⟨b - mid, by omega⟩
          obtain ⟨th, hth⟩ : ∃ th : Nat, (ln : Int) / 8 = (th : Int) := ⟨ln / 8, rfl⟩
          by_cases hLR : Lf < Rt
          · have hLR2 : (Lf : Int) < (Rt : Int) := by omega
            have C := Lib.hid (HI.out w2 a mid l2 d5 (by omega) hl2 HM.out.si.row HM.out.si.size hm1 (by have := HM.out.bn; omega) HM.out.belL)
            clear HI
            go_wp2_with fail
            refine C.out.mono ?_
            rintro e w3 ⟨rfl, d6, hs, hp, hso⟩
            have HQ := Lib.hid (HM.out.left _ _ hs hp hso)
            clear hs hp hso HM C
            go_wp2_with fail
            go_roundg (b - (mid + 1))
            case measure => omega
            case rel => exact ⟨mid + 1, b, l2, _, _, d6, by go_num, rfl, rfl, rfl, rfl, rfl, hl2, by omega, hb00, HQ⟩
          · have hLR2 : ¬ ((Lf : Int) < (Rt : Int)) := by omega
            have C := Lib.hid (HI.out w2 (mid + 1) b l2 d5 (by omega) hl2 HM.out.si.row HM.out.si.size (by omega) hbn HM.out.belR)
            clear HI
            go_wp2_with fail
            refine C.out.mono ?_
            rintro e w3 ⟨rfl, d6, hs, hp, hso⟩
            have HQ := Lib.hid (HM.out.right _ _ hs hp hso)
            clear hs hp hso HM C
            go_wp2_with fail
            go_roundg (mid - a)
            case measure => omega
            case rel => exact ⟨a, mid, l2, _, _, d6, rfl, rfl, rfl, rfl, rfl, rfl, hl2, ha0, by omega, HQ⟩
end Go.Proofs.Ytedekcphgcmlnaa
