/- The law RisesKnown. -/
import Derived.Test.YtejgcpohdbiaoaaKnA
import Derived.Test.YtejgcpohdbiaoaaRngW
import Derived.Test.YtejgcpohdbiaoaaPrW
namespace Go.Proofs.Ytejgcpohdbiaoaa
open Go.RowKit

/-- a row of pairs (1, -1) that is being filled: i of n are there -/
def mny (i : Nat) : Nat → Value := fun j => if j < i * 2 then (if j % 2 = 0 then .int .i64 1 else .int .i64 (-1)) else .int .i64 0
theorem mny_step {w : World} {b n : Nat} {i : Nat} (h : w.rowIs b 50 n (mny i)) : ((w.setCell ⟨b, i * 2, none⟩ (.int .i64 1)).setCell ⟨b, i * 2 + 1, none⟩ (.int .i64 (-1))).rowIs b 50 n (mny (i + 1)) := by
  refine World.rowIs.congr (World.rowIs.set (World.rowIs.set h (i * 2) _) (i * 2 + 1) _) fun j hj => ?_
  unfold mny
  by_cases e1 : j = i * 2 + 1
  · subst e1
    rw [if_pos rfl, if_pos (show i * 2 + 1 < (i + 1) * 2 by omega), if_neg (show ¬ (i * 2 + 1) % 2 = 0 by omega)]
  · rw [if_neg e1]
    by_cases e2 : j = i * 2
    · subst e2
      rw [if_pos rfl, if_pos (show i * 2 < (i + 1) * 2 by omega), if_pos (show i * 2 % 2 = 0 by omega)]
    · rw [if_neg e2]
      by_cases e3 : j < i * 2
      · rw [if_pos e3, if_pos (show j < (i + 1) * 2 by omega)]
      · rw [if_neg e3, if_neg (show ¬ j < (i + 1) * 2 by omega)]
theorem mny_made (w : World) {cs : Array Value} {n : Nat} (h : madeCells #[.int .i64 0, .int .i64 0] n = cs) : (w.alloc (.cells cs 50)).rowIs w.heap.size 50 n (mny 0) := by
  subst h
  refine ⟨_, heap_alloc_new w _, size_madeCells _ _, fun j hj => ?_⟩
  rw [two_zero _ _ hj]
  unfold mny
  rw [if_neg (by omega)]
theorem mny_list {w : World} {b n : Nat} (h : w.rowIs b 50 (n * 2) (mny n)) (hn : n ≤ 9223372036854775807) : ∃ M : List (Int × Int), M.length = n ∧ (∀ k (hk : k < M.length), M[k] = ((1 : Int), (-1 : Int))) ∧ SlP w (some ⟨b, 0, none⟩) n M := by
  refine ⟨List.replicate n (1, -1), List.length_replicate, fun k hk => List.getElem_replicate _, fun k hk => ?_, by rw [List.length_replicate]; exact Nat.le_refl _, hn⟩
  have hk' : k < n := by rwa [List.length_replicate] at hk
  refine ⟨b, 0, rfl, World.rowIs.lt h, ?_, ?_⟩
  · rw [Nat.zero_add, World.rowIs.cell h (by omega), List.getElem_replicate]
    unfold mny
    rw [if_pos (show k * 2 < n * 2 by omega), if_pos (show k * 2 % 2 = 0 by omega)]
  · rw [Nat.zero_add, World.rowIs.cell h (by omega), List.getElem_replicate]
    unfold mny
    rw [if_pos (show k * 2 + 1 < n * 2 by omega), if_neg (show ¬ (k * 2 + 1) % 2 = 0 by omega)]
theorem one_carry {W : World} {g n : Nat} {M : List (Int × Int)} {r : List Int × Int} (hM : SlP W (some ⟨g, 0, none⟩) 4097 M) (hn : M.length = n) (hr : RngP M) (hc : carryR [1] M = r) :
    Calls Try.prog 19 #[.slice (some ⟨W.heap.size, 0, none⟩) 1 1, .slice (some ⟨g, 0, none⟩) n 4097] (W.alloc (.cells #[.int .i64 1] 3)) (RowX r (W.alloc (.cells #[.int .i64 1] 3))) := by
  subst hn; subst hc
  exact carry_any (lit_sl W [1] rfl (by decide)) (hM.next (below_new W (.cells #[.int .i64 1] 3))) (rng_of (by decide)) hr
theorem two_carry {W : World} {g n : Nat} {M : List (Int × Int)} {r : List Int × Int} (hM : SlP W (some ⟨g, 0, none⟩) 4097 M) (hn : M.length = n) (hr : RngP M) (hc : carryR [1, 1] M = r) :
    Calls Try.prog 19 #[.slice (some ⟨W.heap.size, 0, none⟩) 2 2, .slice (some ⟨g, 0, none⟩) n 4097] (W.alloc (.cells #[.int .i64 1, .int .i64 1] 3)) (RowX r (W.alloc (.cells #[.int .i64 1, .int .i64 1] 3))) := by
  subst hn; subst hc
  exact carry_any (lit_sl W [1, 1] rfl (by decide)) (hM.next (below_new W (.cells #[.int .i64 1, .int .i64 1] 3))) (rng_of (by decide)) hr
/-- the steps' row -/
structure KpI (w wr : World) (g i : Nat) : Prop where
  row : wr.rowIs g 50 (4097 * 2) (mny i)
  le : w.heap.size ≤ g
  u : Below w.heap.size w wr
theorem KpI.step {w wr : World} {g i : Nat} (h : KpI w wr g i) : KpI w ((wr.setCell ⟨g, i * 2, none⟩ (.int .i64 1)).setCell ⟨g, i * 2 + 1, none⟩ (.int .i64 (-1))) g (i + 1) :=
  ⟨mny_step h.row, h.le, (h.u.setCell (by exact h.le) _).setCell (by exact h.le) _⟩
theorem rowX_at {l : List Int} {f : Int} {n : Nat} {w : World} {e : Ending} {w' : World} (h : RowX (l, f) w e w') (hn : l.length = n) : ∃ A, e = .returned (.tuple #[.slice A n n, .int .i64 f]) ∧ SlI w' A n l ∧ Below w.heap.size w w' := by
  subst hn
  exact h
theorem rowS_at {l : List (Int × Int)} {f : Int} {n : Nat} {w : World} {e : Ending} {w' : World} (h : RowS (l, f) w e w') (hn : l.length = n) : ∃ A, e = .returned (.tuple #[.slice A n n, .int .i64 f]) ∧ SlP w' A n l ∧ Below w.heap.size w w' := by
  subst hn
  exact h
/-- what the law has in memory -/
structure K8 (w W : World) (g1 g2 g3 : Nat) (up U D tu : List Int) : Prop where
  up : SlI W (some ⟨g1, 0, none⟩) 4097 up
  U : SlI W (some ⟨g1, 0, none⟩) 4097 U
  D : SlI W (some ⟨g2, 0, none⟩) 4097 D
  tu : SlI W (some ⟨g3, 0, none⟩) 4096 tu
  u : Below w.heap.size w W
theorem K8.next {w W W' : World} {g1 g2 g3 : Nat} {up U D tu : List Int} (h : K8 w W g1 g2 g3 up U D tu) (hb : Below W.heap.size W W') : K8 w W' g1 g2 g3 up U D tu :=
  ⟨h.up.next hb, h.U.next hb, h.D.next hb, h.tu.next hb, h.u.trans (hb.mono h.u.size)⟩
set_option maxRecDepth 100000 in
set_option maxHeartbeats 4000000 in
theorem law8_any (w : World) : Calls Try.prog 8 #[] w (YesB w) := by
  obtain ⟨cs1, h1⟩ : ∃ cs, madeCells #[Value.int .i64 0] 4097 = cs := ⟨_, rfl⟩
  obtain ⟨cs3, h3⟩ : ∃ cs, madeCells #[Value.int .i64 0] 4096 = cs := ⟨_, rfl⟩
  obtain ⟨cs4, h4⟩ : ∃ cs, madeCells #[Value.int .i64 0, Value.int .i64 0] (4097 * 2) = cs := ⟨_, rfl⟩
  have hm1 : ∀ W : World, (Instr.makeSlice 22 (.int .i64 4097) (.int .i64 4097)).run Try.prog W = .ok (.slice (some ⟨W.heap.size, 0, none⟩) 4097 4097) (W.alloc (.cells cs1 3)) := fun W => by
    rw [← h1]; exact make_ints 4097 4097 4097 4097 rfl rfl (Nat.le_refl _) (by omega) W
  have hm3 : ∀ W : World, (Instr.makeSlice 22 (.int .i64 4096) (.int .i64 4096)).run Try.prog W = .ok (.slice (some ⟨W.heap.size, 0, none⟩) 4096 4096) (W.alloc (.cells cs3 3)) := fun W => by
    rw [← h3]; exact make_ints 4096 4096 4096 4096 rfl rfl (Nat.le_refl _) (by omega) W
  have hm4 : ∀ W : World, (Instr.makeSlice 38 (.int .i64 4097) (.int .i64 4097)).run Try.prog W = .ok (.slice (some ⟨W.heap.size, 0, none⟩) 4097 4097) (W.alloc (.cells cs4 50)) := fun W => by
    rw [← h4]; exact make_steps 4097 4097 4097 4097 rfl rfl (Nat.le_refl _) (by omega) W
  obtain ⟨g1, s1⟩ : ∃ g : Nat, w.heap.size = g := ⟨_, rfl⟩
  obtain ⟨V1, e1⟩ : ∃ V : World, w.alloc (.cells cs1 3) = V := ⟨_, rfl⟩
  obtain ⟨g2, s2⟩ : ∃ g : Nat, V1.heap.size = g := ⟨_, rfl⟩
  obtain ⟨V2, e2⟩ : ∃ V : World, V1.alloc (.cells cs1 3) = V := ⟨_, rfl⟩
  obtain ⟨g3, s3⟩ : ∃ g : Nat, V2.heap.size = g := ⟨_, rfl⟩
  obtain ⟨V3, e3⟩ : ∃ V : World, V2.alloc (.cells cs3 3) = V := ⟨_, rfl⟩
  have H0 := Lib.hid (kn_start h1 h3 e1 e2 e3 s1 s2 s3)
  have HM := Lib.hid (show _ ∧ _ from ⟨h4, hm4⟩)
  clear h1 h3 h4 hm4
  go_enter Try.func8, Try.ntmps8
  go_wp2_with fail
  clear hm1 hm3 s1 e1 s2 e2 s3 e3
  go_loopw [4] (fun v wr => ∃ i : Nat, i ≤ 4097 ∧ v = .int .i64 i ∧ Hid (KnI w wr g1 g2 g3 i 0)) (fun v _ => 4097 - (intOf v).toNat)
  case atStart => exact ⟨0, Nat.zero_le _, rfl, H0⟩
  case round =>
    clear H0
    obtain ⟨i, hi, rfl, HI⟩ := hrel
    by_cases hlt : i < 4097
    · have c1 := World.rowIs.cell HI.out.a (i := i) hlt
      have c2 := World.rowIs.cell HI.out.b (i := i) hlt
      have f1 := World.rowIs.frozen HI.out.a i
      have f2 := World.rowIs.frozen HI.out.b i
      have hne := HI.out.n12
      generalize fil upF i i = z1 at c1
      generalize fil dnF i i = z2 at c2
      have HN := Lib.hid (HI.out.one (x := i) (y := 4097 - (i : Int)) rfl rfl)
      go_wp2_with fail
      go_roundw
      case rel => exact ⟨i + 1, by omega, by go_num, HN⟩
      case measure => first | (simp [intOf]; done) | (simp [intOf]; omega)
    · have hi2 : i = 4097 := by omega
      have H0 : Hid (KnI w wr g1 g2 g3 4097 0) := hi2 ▸ HI
      clear HI hi hi2
      go_wp2_with fail
      clear hlt
      go_loopw [5] (fun v wk => ∃ j : Nat, j ≤ 4096 ∧ v = .int .i64 j ∧ Hid (KnI w wk g1 g2 g3 4097 j)) (fun v _ => 4096 - (intOf v).toNat)
      case atStart => exact ⟨0, Nat.zero_le _, rfl, H0⟩
      case round =>
        clear H0
        obtain ⟨j, hj, rfl, HI⟩ := hrel
        by_cases hlt : j < 4096
        · have c1 := World.rowIs.cell HI.out.c (i := j) hlt
          have f1 := World.rowIs.frozen HI.out.c j
          generalize fil tuF j j = z1 at c1
          have HN := Lib.hid (HI.out.two (x := ((j : Int) + 1000) % 4096) rfl)
          go_wp2_with fail
          go_roundw
          case rel => exact ⟨j + 1, by omega, by go_num, HN⟩
          case measure => first | (simp [intOf]; done) | (simp [intOf]; omega)
        · have hj2 : j = 4096 := by omega
          replace HI : Hid (KnI w wr g1 g2 g3 4097 4096) := hj2 ▸ HI
          obtain ⟨up, pl, hu, su⟩ := fil_list HI.out.a (by omega)
          obtain ⟨dn, dl, hd, sd⟩ := fil_list HI.out.b (by omega)
          obtain ⟨tu, tl, ht, st⟩ := fil_list HI.out.c (by omega)
          obtain ⟨a, c, s, hk⟩ := known pl dl tl hu hd ht
          have HU := Lib.hid HI.out.u
          clear HI hj hj2 hu hd ht
          obtain ⟨U, hU⟩ : ∃ U, up.take 4096 = U := ⟨_, rfl⟩
          obtain ⟨D, hD⟩ : ∃ D, dn.take 4096 = D := ⟨_, rfl⟩
          have sU := su.head 4096
          have sD := sd.head 4096
          rw [hU, hD] at hk
          rw [hU] at sU
          rw [hD] at sD
          have HK := Lib.hid hk
          have H := Lib.hid (show K8 w wr g1 g2 g3 up U D tu from ⟨su, sU, sD, st, HU.out⟩)
          clear hk su sd st sU sD hU hD pl dl tl HU
          go_wp2_with fail
          clear hlt
          have HX := longest_any H.out.U
          rw [HK.out.ul, HK.out.lU] at HX
          refine HX.mono ?_
          clear HX
          intro e w1 h
          obtain ⟨A1, rfl, _, hu⟩ := rowX_at h HK.out.al
          replace H := Lib.hid (H.out.next hu)
          clear h hu
          go_wp2_with fail
          have HX := longest_any H.out.D
          rw [HK.out.dl, HK.out.lD] at HX
          refine HX.mono ?_
          clear HX
          intro e w2 h
          obtain ⟨A2, rfl, hs, hu⟩ := rowX_at h (show ([0] : List Int).length = 1 from rfl)
          replace H := Lib.hid (H.out.next hu)
          have HB2 := Lib.hid hs
          clear h hu hs
          go_wp2_with fail
          have HX := longest_any H.out.up
          rw [HK.out.pl, HK.out.lup] at HX
          refine HX.mono ?_
          clear HX
          intro e w3 h
          obtain ⟨A3, rfl, _, hu⟩ := rowX_at h (show ([] : List Int).length = 0 from rfl)
          replace H := Lib.hid (H.out.next hu)
          replace HB2 := Lib.hid (HB2.out.next hu)
          clear h hu
          go_wp2_with fail
          have HX := longest_any H.out.tu
          rw [HK.out.tl, HK.out.lt] at HX
          refine HX.mono ?_
          clear HX
          intro e w4 h
          obtain ⟨A4, rfl, hs, hu⟩ := rowX_at h HK.out.cl
          replace H := Lib.hid (H.out.next hu)
          obtain ⟨b2, o2, rfl, _, c2⟩ := (HB2.out.next hu).rd 0 (by decide)
          obtain ⟨b4, o4, rfl, _, c4⟩ := hs.rd 0 (by rw [HK.out.cl]; omega)
          rw [HK.out.c0] at c4
          rw [Nat.add_zero] at c2 c4
          rw [show ([0] : List Int)[0] = 0 from rfl] at c2
          clear h hu hs HB2
          go_wp2_with fail
          have HX := check_any H.out.up HK.out.rp
          rw [HK.out.pl, HK.out.ck] at HX
          refine HX.mono ?_
          clear HX
          rintro e w5 ⟨rfl, hu⟩
          replace H := Lib.hid (H.out.next hu)
          clear hu c2 c4
          go_wp2_with fail
          have HX := moves_any H.out.U H.out.tu HK.out.rU HK.out.rt
          rw [HK.out.ul, HK.out.tl, HK.out.mv] at HX
          refine HX.mono ?_
          clear HX
          intro e w6 h
          obtain ⟨A5, rfl, hs, hu⟩ := rowS_at h HK.out.sl
          replace H := Lib.hid (H.out.next hu)
          obtain ⟨b5, o5, rfl, _, c0, c1⟩ := hs.rd 0 (by rw [HK.out.sl]; omega)
          obtain ⟨b6, o6, e6, _, c2, c3⟩ := hs.rd 999 (by rw [HK.out.sl]; omega)
          injection e6 with e6
          injection e6 with e7 e8
          subst e7; subst e8
          rw [HK.out.s0] at c0 c1
          rw [HK.out.s9] at c2 c3
          rw [Nat.zero_mul, Nat.add_zero] at c0 c1
          rw [show 999 * 2 = 1998 from rfl] at c2 c3
          rw [Nat.add_assoc] at c3
          have HS := Lib.hid hs
          clear h hu hs
          go_wp2_with fail
          clear c0 c1 c2 c3
          have HX := carry_any H.out.U HS.out HK.out.rU HK.out.rs
          rw [HK.out.ul, HK.out.sl, HK.out.ca] at HX
          refine HX.mono ?_
          clear HX HS
          intro e w7 h
          obtain ⟨A7, rfl, hs, hu⟩ := rowX_at h HK.out.tl
          replace H := Lib.hid (H.out.next hu)
          have HC := Lib.hid hs
          clear h hu hs
          obtain ⟨g4, s4⟩ : ∃ g : Nat, w7.heap.size = g := ⟨_, rfl⟩
          obtain ⟨V4, e4⟩ : ∃ V : World, w7.alloc (.cells cs4 50) = V := ⟨_, rfl⟩
          have H0 : Hid (KpI w7 V4 g4 0) := Lib.hid (by
            have h1 := mny_made w7 HM.out.1
            have h2 := below_new w7 (.cells cs4 50)
            rw [e4] at h1 h2
            rw [s4] at h1
            exact ⟨h1, by omega, h2⟩)
          have hm4 := HM.out.2
          go_wp2_with fail
          clear hm4 s4 e4
          go_loopw [17] (fun v wk => ∃ i : Nat, i ≤ 4097 ∧ v = .int .i64 i ∧ Hid (KpI w7 wk g4 i)) (fun v _ => 4097 - (intOf v).toNat)
          case atStart => exact ⟨0, Nat.zero_le _, rfl, H0⟩
          case round =>
            clear H0
            obtain ⟨k, hk, rfl, HI⟩ := hrel
            by_cases hlt : k < 4097
            · have c1 := World.rowIs.cell HI.out.row (i := k * 2) (by omega)
              have c2 := World.rowIs.cell HI.out.row (i := k * 2 + 1) (by omega)
              have f1 := World.rowIs.frozen HI.out.row (k * 2)
              have f2 := World.rowIs.frozen HI.out.row (k * 2 + 1)
              generalize mny k (k * 2) = z1 at c1
              generalize mny k (k * 2 + 1) = z2 at c2
              have HN := Lib.hid HI.out.step
              go_wp2_with fail
              go_roundw
              case rel => exact ⟨k + 1, by omega, by go_num, HN⟩
              case measure => first | (simp [intOf]; done) | (simp [intOf]; omega)
            · have hk2 : k = 4097 := by omega
              replace HI : Hid (KpI w7 wr g4 4097) := hk2 ▸ HI
              obtain ⟨M, ml, hM, sM⟩ := mny_list HI.out.row (by omega)
              obtain ⟨m1, m2, m3, m4, m5, m6⟩ := many_known ml hM
              replace H := Lib.hid (H.out.next HI.out.u)
              replace HC := Lib.hid (HC.out.next HI.out.u)
              have sT := sM.head 4096
              obtain ⟨T, hT⟩ : ∃ T, M.take 4096 = T := ⟨_, rfl⟩
              rw [hT] at m2 m4 m6 sT
              have HMM := Lib.hid (show _ ∧ _ ∧ _ ∧ _ ∧ _ ∧ _ ∧ _ from ⟨m1, m2, m3, m4, m5, m6, ml⟩)
              have HSM := Lib.hid (show _ ∧ _ from ⟨sM, sT⟩)
              clear HI hk hk2 hM m1 m2 m3 m4 m5 m6 ml sM sT hT
              go_wp2_with fail
              clear hlt
              refine (one_carry HSM.out.1 HMM.out.2.2.2.2.2.2 HMM.out.2.2.2.2.1 HMM.out.1).mono ?_
              intro e w8 h
              obtain ⟨A8, rfl, _, hu⟩ := rowX_at h (show ([] : List Int).length = 0 from rfl)
              have hbb : Below wr.heap.size wr w8 := (below_new wr _).trans (hu.mono (by simp))
              replace H := Lib.hid (H.out.next hbb)
              replace HC := Lib.hid (HC.out.next hbb)
              replace HSM := Lib.hid (show _ ∧ _ from ⟨HSM.out.1.next hbb, HSM.out.2.next hbb⟩)
              clear h hu hbb
              go_wp2_with fail
              refine (one_carry HSM.out.2 HMM.out.2.2.2.1 HMM.out.2.2.2.2.2.1 HMM.out.2.1).mono ?_
              intro e w9 h
              obtain ⟨A9, rfl, hs, hu⟩ := rowX_at h (show ([1] : List Int).length = 1 from rfl)
              have hbb : Below w8.heap.size w8 w9 := (below_new w8 _).trans (hu.mono (by simp))
              replace H := Lib.hid (H.out.next hbb)
              replace HC := Lib.hid (HC.out.next hbb)
              replace HSM := Lib.hid (show _ ∧ _ from ⟨HSM.out.1.next hbb, HSM.out.2.next hbb⟩)
              have H1 := Lib.hid hs
              clear h hu hbb hs
              go_wp2_with fail
              refine (two_carry HSM.out.1 HMM.out.2.2.2.2.2.2 HMM.out.2.2.2.2.1 HMM.out.2.2.1).mono ?_
              intro e w10 h
              obtain ⟨A10, rfl, _, hu⟩ := rowX_at h (show ([] : List Int).length = 0 from rfl)
              have hbb : Below w9.heap.size w9 w10 := (below_new w9 _).trans (hu.mono (by simp))
              replace H := Lib.hid (H.out.next hbb)
              replace HC := Lib.hid (HC.out.next hbb)
              replace H1 := Lib.hid (H1.out.next hbb)
              clear h hu hbb HSM HMM
              have HX := same_any (f := 0) 4096 (by have := HC.out.rd; exact this) H.out.tu.rd H.out.tu.len
              rw [HK.out.tl] at HX
              have HX := Lib.hid HX
              go_wp2_with fail
              refine HX.out.mono ?_
              clear HX
              rintro e w11 ⟨rfl, m5, rfl⟩
              replace H := Lib.hid (H.out.next (below_drewN w10 m5))
              replace H1 := Lib.hid (H1.out.next (below_drewN w10 m5))
              generalize w10.drewN m5 = w11 at *
              go_wp2_with fail
              refine (sam w11 [1] rfl H1.out).mono ?_
              rintro e w12 ⟨rfl, hb⟩
              have HU := Lib.hid (H.out.next hb).u
              clear H H1 HC hb
              go_wp2_with fail
              refine (lives_any w12).mono ?_
              rintro e w13 ⟨rfl, hb⟩
              have HB := Lib.hid (HU.out.trans (hb.mono HU.out.size))
              clear hb
              go_wp2_with fail
              go_ret
              exact ⟨rfl, HB.out⟩
end Go.Proofs.Ytejgcpohdbiaoaa
