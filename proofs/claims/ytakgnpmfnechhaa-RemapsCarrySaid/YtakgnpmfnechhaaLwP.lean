/- The law RemapsCompose. -/
import Derived.Test.YtakgnpmfnechhaaM5
namespace Go.Proofs.Ytakgnpmfnechhaa
open Go.RowKit

/-- what is known of the law's lists -/
structure Fx (ss ts us : List St) (n0 na nb nc : Nat) (a b cc ab al bc : List Int) : Prop where
  ea : aft (idL n0) ss = a
  eb : aft (idL na) ts = b
  ec : aft (idL nb) us = cc
  eab : aft a ts = ab
  eal : aft ab us = al
  la : a.length = na
  lb : b.length = nb
  lc : cc.length = nc
  lab : ab.length = nb
  lal : al.length = nc
  lbc : bc.length = nc
  e1 : cmpM n0 a na b = (((n0 : Int), ab), 0)
  e2 : cmpM na b nb cc = (((na : Int), bc), 0)
  e3 : cmpM n0 ab nb cc = (((n0 : Int), al), 0)
  e4 : cmpM n0 a na bc = (((n0 : Int), al), 0)
  e5 : cmpM n0 (idL n0) n0 a = (((n0 : Int), a), 0)
  e6 : cmpM n0 a na (idL na) = (((n0 : Int), a), 0)
theorem fx_ex (ss ts us : List St) {n0 : Nat} (h0 : n0 ≤ 30) : ∃ na nb nc a b cc ab al bc, Fx ss ts us n0 na nb nc a b cc ab al bc ∧ na ≤ 90 ∧ nb ≤ 150 ∧ nc ≤ 210 := by
  obtain ⟨a, ha⟩ : ∃ a, aft (idL n0) ss = a := ⟨_, rfl⟩
  have va : Vm n0 a := by rw [← ha]; exact aft_vm (idL_vm (by omega)) (by rw [idL_len]; omega)
  have la : a.length ≤ 90 := by have := @aft_len (idL n0) ss; rw [ha, idL_len] at this; omega
  obtain ⟨na, hna⟩ : ∃ n, a.length = n := ⟨_, rfl⟩
  obtain ⟨b, hb⟩ : ∃ b, aft (idL na) ts = b := ⟨_, rfl⟩
  have vb : Vm na b := by rw [← hb]; exact aft_vm (idL_vm (by omega)) (by rw [idL_len]; omega)
  have lb : b.length ≤ 150 := by have := @aft_len (idL na) ts; rw [hb, idL_len] at this; omega
  obtain ⟨nb, hnb⟩ : ∃ n, b.length = n := ⟨_, rfl⟩
  obtain ⟨c, hc⟩ : ∃ c, aft (idL nb) us = c := ⟨_, rfl⟩
  have vc : Vm nb c := by rw [← hc]; exact aft_vm (idL_vm (by omega)) (by rw [idL_len]; omega)
  have lc : c.length ≤ 210 := by have := @aft_len (idL nb) us; rw [hc, idL_len] at this; omega
  have hab : cmpL a b = aft a ts := by rw [← hb, ← hna]; exact cmp_aft
  have hbc : cmpL b c = aft b us := by rw [← hc, ← hnb]; exact cmp_aft
  have hlab : (aft a ts).length = nb := by rw [← hab, cmpL_len, hnb]
  have vab : Vm n0 (aft a ts) := by rw [← hab]; exact cmp_vm va (by rw [hna]; exact vb)
  have habc : cmpL (aft a ts) c = aft (aft a ts) us := by rw [← hc, ← hlab]; exact cmp_aft
  have vbc : Vm na (cmpL b c) := cmp_vm vb (by rw [hnb]; exact vc)
  have h4 : cmpL a (cmpL b c) = aft (aft a ts) us := by rw [← habc, ← hab]; exact (cmp_assoc (by rw [hnb]; exact vc.rng)).symm
  refine ⟨na, nb, c.length, a, b, c, aft a ts, aft (aft a ts) us, cmpL b c, ⟨ha, hb, hc, rfl, rfl, hna, hnb, rfl, hlab, by rw [← habc, cmpL_len], cmpL_len b c, ?_, ?_, ?_, ?_, ?_, ?_⟩, by omega, by omega, by omega⟩
  · rw [cmp_ok va (by rw [hna]; exact vb) hna, hab]
  · rw [cmp_ok vb (by rw [hnb]; exact vc) hnb]
  · rw [cmp_ok vab (by rw [hlab]; exact vc) hlab, habc]
  · rw [cmp_ok va (by rw [hna]; exact vbc) hna, h4]
  · rw [cmp_ok (idL_vm (by omega)) (by rw [idL_len]; exact va) (idL_len n0), cmp_id va.rng]
  · rw [cmp_ok va (by rw [hna]; exact idL_vm (by omega)) hna]
    have := id_cmp a
    rw [hna] at this
    rw [this]
set_option maxRecDepth 100000 in
set_option maxHeartbeats 16000000 in
theorem law5_any {w : World} {A B C : Option Addr} {c d e0 : Nat} {ss ts us : List St} (N : Nat) (hN : N ≤ 255) (hs : RdQ w w.heap.size A ss) (hc : ss.length ≤ c) (hcm : c ≤ 9223372036854775807)
    (ht : RdQ w w.heap.size B ts) (hd : ts.length ≤ d) (hdm : d ≤ 9223372036854775807) (hu : RdQ w w.heap.size C us) (he : us.length ≤ e0) (hem : e0 ≤ 9223372036854775807) :
    Calls Try.prog 5 #[.agg #[.int .u8 N, .slice A ss.length c], .slice B ts.length d, .slice C us.length e0] w (YesB w) := by
  obtain ⟨n0, hn0⟩ : ∃ n, N % 31 = n := ⟨_, rfl⟩
  have hn30 : n0 ≤ 30 := by omega
  obtain ⟨na, nb, nc, a, b, cc, ab, al, bc, hF, hna, hnb, hnc⟩ := fx_ex ss ts us hn30
  have F := Lib.hid hF
  have HT0 := Lib.hid (show _ ∧ _ ∧ _ from ⟨ht, hd, hdm⟩)
  have HU0 := Lib.hid (show _ ∧ _ ∧ _ from ⟨hu, he, hem⟩)
  have hB3 := below_new w (.cells #[.int .u8 N, .slice A ss.length c] 54)
  have K := of_M (w := w.alloc (.cells #[.int .u8 N, .slice A ss.length c] 54)) N hN (hs.next hB3) hc hcm hn0 ((congrArg List.length hF.ea).trans hF.la)
  rw [hF.ea] at K
  have K := Lib.hid K
  have M0 := Lib.hid ((MM.start w).next hB3)
  clear hF hs ht hu hB3 hn0
  go_enter Try.func5, Try.ntmps5
  go_wp2_with fail
  refine K.out.mono ?_
  rintro e w7 ⟨A7, c7, rfl, hs7, hk7, hb⟩
  clear K
  have hN7 := (M0.out.next hb).pushM (o := n0) (n := na) F.out.la hs7
  have hk8 := hk7.next (below_new w7 (.cells #[.int .i64 n0, .slice A7 na c7] 24))
  obtain ⟨g7, eg7⟩ : ∃ g : Nat, w7.heap.size = g := ⟨_, rfl⟩
  obtain ⟨V7, ev7⟩ : ∃ V : World, w7.alloc (.cells #[.int .i64 n0, .slice A7 na c7] 24) = V := ⟨_, rfl⟩
  rw [eg7, ev7] at hN7
  rw [ev7] at hk8
  have b8 := heap_alloc_new V7 (.cells #[.int .u8 0, .slice B ts.length d] 54)
  have u8 := below_new V7 (.cells #[.int .u8 0, .slice B ts.length d] 54)
  obtain ⟨g8, eg8⟩ : ∃ g : Nat, V7.heap.size = g := ⟨_, rfl⟩
  obtain ⟨V8, ev8⟩ : ∃ V : World, V7.alloc (.cells #[.int .u8 0, .slice B ts.length d] 54) = V := ⟨_, rfl⟩
  rw [ev8, eg8] at b8
  rw [ev8] at u8
  have b9 := heap_alloc_new V8 (.cells #[.int .u8 0, .slice C us.length e0] 54)
  have u9 := below_new V8 (.cells #[.int .u8 0, .slice C us.length e0] 54)
  obtain ⟨g9, eg9⟩ : ∃ g : Nat, V8.heap.size = g := ⟨_, rfl⟩
  obtain ⟨V9, ev9⟩ : ∃ V : World, V8.alloc (.cells #[.int .u8 0, .slice C us.length e0] 54) = V := ⟨_, rfl⟩
  rw [ev9, eg9] at b9
  rw [ev9] at u9
  have M : Hid (M5 w V9 [⟨g7, n0, A7, c7, a⟩] [] A7 g8 (.slice B ts.length d) g9 (.slice C us.length e0)) := Lib.hid ⟨(hN7.next u8).next u9, (hk8.next u8).next u9, keep_heap u9 b8, b9⟩
  obtain ⟨x0, x1⟩ := (M.out.at 0 rfl).cells_n F.out.la
  have HT1 := Lib.hid (show RdQ V9 V9.heap.size B ts ∧ ts.length ≤ d ∧ d ≤ 9223372036854775807 from ⟨(HT0.out.1.below M.out.u).more M.out.u.size, HT0.out.2⟩)
  have HEB := Lib.hid F.out.eb
  have HLB := Lib.hid F.out.lb
  clear hs7 hk7 hb hN7 hk8 b8 u8 b9 u9 M0
  go_upto_region 5 with fail
  clear eg7 ev7 eg8 ev8 eg9 ev9 x0 x1
  go_upto_region 5 with fail
  obtain ⟨P, hP⟩ : ∃ P : World → Prop, (fun U => Below V9.heap.size V9 U) = P := ⟨_, rfl⟩
  have PV := Lib.hid (show ∀ U, P U → Below V9.heap.size V9 U from fun U h => by rw [← hP] at h; exact h)
  have PM := Lib.hid (show ∀ U, Below V9.heap.size V9 U → P U from fun U h => by rw [← hP]; exact h)
  have PN := Lib.hid (show ∀ U U', Hid (P U) → Below U.heap.size U U' → P U' from fun U U' h kk => by
    have h := h.out
    rw [← hP] at h ⊢
    exact h.trans (kk.mono h.size))
  have HP0 : Hid (P V9.drew) := Lib.hid (PM.out _ (Below.refl _ _).drew)
  have HPa : Hid (P (V9.alloc (.cells #[.int .i64 0, .slice none 0 0] 24)).drew) := Lib.hid (PM.out _ (below_new _ _).drew)
  have HRa : Hid (Room (V9.alloc (.cells #[.int .i64 0, .slice none 0 0] 24)).drew V9.heap.size ∧ V9.heap.size ≤ V9.heap.size) := Lib.hid ⟨Room.new V9 _ _, Nat.le_refl _⟩
  have PC := Lib.hid (show ∀ U, Hid (P U) → (U.cell? ⟨g8, 0, none⟩ = some (.int .u8 0) ∧ U.cell? ⟨g8, 1, none⟩ = some (.slice B ts.length d)) from fun U h => (M.out.next (PV.out U h.out)).box8)
  have CS := Lib.hid (show ∀ U, Hid (P U) → Calls Try.prog 25 #[.int .i64 na] U (RowN na (idL na) U) from fun U _ => refSame_n na (by omega) U)
  have CA := Lib.hid (show ∀ U B' d', Hid (P U) → SlI U B' d' (idL na) → Kd U B' → Calls Try.prog 31 #[.agg #[.int .u8 0, .slice B ts.length d], .slice B' na d'] U (RowN nb (b) U) from fun U B' d' h h1 h2 => by
    have h3 := after_n 0 (HT1.out.1.next (PV.out U h.out)) HT1.out.2.1 HT1.out.2.2 h1 h2 (idL_len na) (by omega) ((congrArg List.length HEB.out).trans HLB.out)
    rw [HEB.out] at h3
    exact h3)
  clear hP
  go_cut [11] from 37 to 42 (fun sv wx => ∃ (g : Nat) (A : Option Addr) (c : Nat), sv = .pointer (some ⟨g, 0, none⟩) ∧ Hid (P wx ∧ Mv wx g na A c (b)))
  case first =>
    go_region_held3 (fun U => U.cell? ⟨g8, 0, none⟩ = some (.int .u8 0) ∧ U.cell? ⟨g8, 1, none⟩ = some (.slice B ts.length d))
      (with_reducible exact PC.out _ (by assumption))
      (first
        | (go_at_call 25; (with_reducible refine (CS.out _ HPa).mono ?_); rintro e w1 ⟨A1, c1, rfl, hs1, hk1, kk⟩; have HQ1 := Lib.hid (PN.out _ _ HPa kk); have HR1 := Lib.hid (show _ ∧ _ from ⟨hs1, hk1⟩); have HV1 := Lib.hid (show Room w1 V9.heap.size ∧ V9.heap.size ≤ V9.heap.size from ⟨HRa.out.1.keep kk, Nat.le_refl _⟩); clear kk hs1 hk1)
        | (go_at_call 25; (with_reducible refine (CS.out _ HP0).mono ?_); rintro e w1 ⟨A1, c1, rfl, hs1, hk1, kk⟩; have HQ1 := Lib.hid (PN.out _ _ HP0 kk); have HR1 := Lib.hid (show _ ∧ _ from ⟨hs1, hk1⟩); have HQb := Lib.hid (PN.out _ _ HQ1 (below_new w1 (.cells #[.int .i64 0, .slice none 0 0] 24))); have HRb := Lib.hid (show _ ∧ _ from ⟨hs1.next (below_new w1 (.cells #[.int .i64 0, .slice none 0 0] 24)), hk1.next (below_new w1 (.cells #[.int .i64 0, .slice none 0 0] 24))⟩); have HVb := Lib.hid (show Room (w1.alloc (.cells #[.int .i64 0, .slice none 0 0] 24)) w1.heap.size ∧ V9.heap.size ≤ w1.heap.size from ⟨Room.new w1 _ _, (PV.out _ HQ1.out).size⟩); clear kk hs1 hk1)
        | (go_at_call 31; (with_reducible refine (CA.out _ _ _ HQb HRb.out.1 HRb.out.2).mono ?_); rintro e w2 ⟨A2, c2, rfl, hs2, hk2, kk⟩; have HQ2 := Lib.hid (PN.out _ _ HQb kk); have hrm := HVb.out.1.keep kk; have hfin := Lib.hid (show P ((w2.setCell ⟨w1.heap.size, 0, none⟩ (.int .i64 na)).setCell ⟨w1.heap.size, 1, none⟩ (.slice A2 nb c2)) ∧ Mv ((w2.setCell ⟨w1.heap.size, 0, none⟩ (.int .i64 na)).setCell ⟨w1.heap.size, 1, none⟩ (.slice A2 nb c2)) w1.heap.size na A2 c2 (b) from ⟨PM.out _ (below_set2 (PV.out _ HQ2.out) HVb.out.2), mv_set2 HLB.out hs2 hk2 hrm⟩); have HQ3 := Lib.hid hfin.out.1; obtain ⟨u, v, r0, r1, f0, f1⟩ := hrm.open_; clear kk hs2 hk2 hrm)
        | (go_at_call 31; (with_reducible refine (CA.out _ _ _ HQ1 HR1.out.1 HR1.out.2).mono ?_); rintro e w2 ⟨A2, c2, rfl, hs2, hk2, kk⟩; have HQ2 := Lib.hid (PN.out _ _ HQ1 kk); have hrm := HV1.out.1.keep kk; have hfin := Lib.hid (show P ((w2.setCell ⟨V9.heap.size, 0, none⟩ (.int .i64 na)).setCell ⟨V9.heap.size, 1, none⟩ (.slice A2 nb c2)) ∧ Mv ((w2.setCell ⟨V9.heap.size, 0, none⟩ (.int .i64 na)).setCell ⟨V9.heap.size, 1, none⟩ (.slice A2 nb c2)) V9.heap.size na A2 c2 (b) from ⟨PM.out _ (below_set2 (PV.out _ HQ2.out) HV1.out.2), mv_set2 HLB.out hs2 hk2 hrm⟩); have HQ3 := Lib.hid hfin.out.1; obtain ⟨u, v, r0, r1, f0, f1⟩ := hrm.open_; clear kk hs2 hk2 hrm)
        | (go_at_call 31; (with_reducible refine (CA.out _ _ _ HQ1 HR1.out.1 HR1.out.2).mono ?_); rintro e w2 ⟨A2, c2, rfl, hs2, hk2, kk⟩; have HQ2 := Lib.hid (PN.out _ _ HQ1 kk); have hfin := Lib.hid (show P (w2.alloc (.cells #[.int .i64 na, .slice A2 nb c2] 24)) ∧ Mv (w2.alloc (.cells #[.int .i64 na, .slice A2 nb c2] 24)) w2.heap.size na A2 c2 (b) from ⟨PN.out _ _ HQ2 (below_new _ _), mv_new_n HLB.out hs2⟩); have HQ3 := Lib.hid hfin.out.1; have HQ4 := Lib.hid (PN.out _ _ HQ2 (below_new w2 (.cells #[.int .i64 0, .slice none 0 0] 24))); clear kk hs2 hk2))
    all_goals (
      go_wp2_with fail
      go_meet
      exact ⟨_, A2, c2, rfl, hfin⟩)
  case rest =>
  obtain ⟨g11, A11, c11, rfl, HF⟩ := hcut
  replace M := Lib.hid ((M.out.next (PV.out _ HF.out.1)).add HF.out.2)
  rename World => W11
  clear HF PV PM PN HP0 HPa HRa PC CS CA
  obtain ⟨x0, x1⟩ := (M.out.at 0 rfl).cells_n F.out.lb
  have HT2 := Lib.hid (show RdQ W11 W11.heap.size C us ∧ us.length ≤ e0 ∧ e0 ≤ 9223372036854775807 from ⟨(HU0.out.1.below M.out.u).more M.out.u.size, HU0.out.2⟩)
  have HEC := Lib.hid F.out.ec
  have HLC := Lib.hid F.out.lc
  go_upto_region 7 with fail
  clear x0 x1
  go_upto_region 7 with fail
  obtain ⟨P, hP⟩ : ∃ P : World → Prop, (fun U => Below W11.heap.size W11 U) = P := ⟨_, rfl⟩
  have PV := Lib.hid (show ∀ U, P U → Below W11.heap.size W11 U from fun U h => by rw [← hP] at h; exact h)
  have PM := Lib.hid (show ∀ U, Below W11.heap.size W11 U → P U from fun U h => by rw [← hP]; exact h)
  have PN := Lib.hid (show ∀ U U', Hid (P U) → Below U.heap.size U U' → P U' from fun U U' h kk => by
    have h := h.out
    rw [← hP] at h ⊢
    exact h.trans (kk.mono h.size))
  have HP0 : Hid (P W11.drew) := Lib.hid (PM.out _ (Below.refl _ _).drew)
  have HPa : Hid (P (W11.alloc (.cells #[.int .i64 0, .slice none 0 0] 24)).drew) := Lib.hid (PM.out _ (below_new _ _).drew)
  have HRa : Hid (Room (W11.alloc (.cells #[.int .i64 0, .slice none 0 0] 24)).drew W11.heap.size ∧ W11.heap.size ≤ W11.heap.size) := Lib.hid ⟨Room.new W11 _ _, Nat.le_refl _⟩
  have PC := Lib.hid (show ∀ U, Hid (P U) → (U.cell? ⟨g9, 0, none⟩ = some (.int .u8 0) ∧ U.cell? ⟨g9, 1, none⟩ = some (.slice C us.length e0)) from fun U h => (M.out.next (PV.out U h.out)).box9)
  have CS := Lib.hid (show ∀ U, Hid (P U) → Calls Try.prog 25 #[.int .i64 nb] U (RowN nb (idL nb) U) from fun U _ => refSame_n nb (by omega) U)
  have CA := Lib.hid (show ∀ U B' d', Hid (P U) → SlI U B' d' (idL nb) → Kd U B' → Calls Try.prog 31 #[.agg #[.int .u8 0, .slice C us.length e0], .slice B' nb d'] U (RowN nc (cc) U) from fun U B' d' h h1 h2 => by
    have h3 := after_n 0 (HT2.out.1.next (PV.out U h.out)) HT2.out.2.1 HT2.out.2.2 h1 h2 (idL_len nb) (by omega) ((congrArg List.length HEC.out).trans HLC.out)
    rw [HEC.out] at h3
    exact h3)
  clear hP
  go_cut [13] from 46 to 51 (fun sv wx => ∃ (g : Nat) (A : Option Addr) (c : Nat), sv = .pointer (some ⟨g, 0, none⟩) ∧ Hid (P wx ∧ Mv wx g nb A c (cc)))
  case first =>
    go_region_held3 (fun U => U.cell? ⟨g9, 0, none⟩ = some (.int .u8 0) ∧ U.cell? ⟨g9, 1, none⟩ = some (.slice C us.length e0))
      (with_reducible exact PC.out _ (by assumption))
      (first
        | (go_at_call 25; (with_reducible refine (CS.out _ HPa).mono ?_); rintro e w1 ⟨A1, c1, rfl, hs1, hk1, kk⟩; have HQ1 := Lib.hid (PN.out _ _ HPa kk); have HR1 := Lib.hid (show _ ∧ _ from ⟨hs1, hk1⟩); have HV1 := Lib.hid (show Room w1 W11.heap.size ∧ W11.heap.size ≤ W11.heap.size from ⟨HRa.out.1.keep kk, Nat.le_refl _⟩); clear kk hs1 hk1)
        | (go_at_call 25; (with_reducible refine (CS.out _ HP0).mono ?_); rintro e w1 ⟨A1, c1, rfl, hs1, hk1, kk⟩; have HQ1 := Lib.hid (PN.out _ _ HP0 kk); have HR1 := Lib.hid (show _ ∧ _ from ⟨hs1, hk1⟩); have HQb := Lib.hid (PN.out _ _ HQ1 (below_new w1 (.cells #[.int .i64 0, .slice none 0 0] 24))); have HRb := Lib.hid (show _ ∧ _ from ⟨hs1.next (below_new w1 (.cells #[.int .i64 0, .slice none 0 0] 24)), hk1.next (below_new w1 (.cells #[.int .i64 0, .slice none 0 0] 24))⟩); have HVb := Lib.hid (show Room (w1.alloc (.cells #[.int .i64 0, .slice none 0 0] 24)) w1.heap.size ∧ W11.heap.size ≤ w1.heap.size from ⟨Room.new w1 _ _, (PV.out _ HQ1.out).size⟩); clear kk hs1 hk1)
        | (go_at_call 31; (with_reducible refine (CA.out _ _ _ HQb HRb.out.1 HRb.out.2).mono ?_); rintro e w2 ⟨A2, c2, rfl, hs2, hk2, kk⟩; have HQ2 := Lib.hid (PN.out _ _ HQb kk); have hrm := HVb.out.1.keep kk; have hfin := Lib.hid (show P ((w2.setCell ⟨w1.heap.size, 0, none⟩ (.int .i64 nb)).setCell ⟨w1.heap.size, 1, none⟩ (.slice A2 nc c2)) ∧ Mv ((w2.setCell ⟨w1.heap.size, 0, none⟩ (.int .i64 nb)).setCell ⟨w1.heap.size, 1, none⟩ (.slice A2 nc c2)) w1.heap.size nb A2 c2 (cc) from ⟨PM.out _ (below_set2 (PV.out _ HQ2.out) HVb.out.2), mv_set2 HLC.out hs2 hk2 hrm⟩); have HQ3 := Lib.hid hfin.out.1; obtain ⟨u, v, r0, r1, f0, f1⟩ := hrm.open_; clear kk hs2 hk2 hrm)
        | (go_at_call 31; (with_reducible refine (CA.out _ _ _ HQ1 HR1.out.1 HR1.out.2).mono ?_); rintro e w2 ⟨A2, c2, rfl, hs2, hk2, kk⟩; have HQ2 := Lib.hid (PN.out _ _ HQ1 kk); have hrm := HV1.out.1.keep kk; have hfin := Lib.hid (show P ((w2.setCell ⟨W11.heap.size, 0, none⟩ (.int .i64 nb)).setCell ⟨W11.heap.size, 1, none⟩ (.slice A2 nc c2)) ∧ Mv ((w2.setCell ⟨W11.heap.size, 0, none⟩ (.int .i64 nb)).setCell ⟨W11.heap.size, 1, none⟩ (.slice A2 nc c2)) W11.heap.size nb A2 c2 (cc) from ⟨PM.out _ (below_set2 (PV.out _ HQ2.out) HV1.out.2), mv_set2 HLC.out hs2 hk2 hrm⟩); have HQ3 := Lib.hid hfin.out.1; obtain ⟨u, v, r0, r1, f0, f1⟩ := hrm.open_; clear kk hs2 hk2 hrm)
        | (go_at_call 31; (with_reducible refine (CA.out _ _ _ HQ1 HR1.out.1 HR1.out.2).mono ?_); rintro e w2 ⟨A2, c2, rfl, hs2, hk2, kk⟩; have HQ2 := Lib.hid (PN.out _ _ HQ1 kk); have hfin := Lib.hid (show P (w2.alloc (.cells #[.int .i64 nb, .slice A2 nc c2] 24)) ∧ Mv (w2.alloc (.cells #[.int .i64 nb, .slice A2 nc c2] 24)) w2.heap.size nb A2 c2 (cc) from ⟨PN.out _ _ HQ2 (below_new _ _), mv_new_n HLC.out hs2⟩); have HQ3 := Lib.hid hfin.out.1; have HQ4 := Lib.hid (PN.out _ _ HQ2 (below_new w2 (.cells #[.int .i64 0, .slice none 0 0] 24))); clear kk hs2 hk2))
    all_goals (
      go_wp2_with fail
      go_meet
      exact ⟨_, A2, c2, rfl, hfin⟩)
  case rest =>
  obtain ⟨g13, A13, c13, rfl, HF⟩ := hcut
  replace M := Lib.hid ((M.out.next (PV.out _ HF.out.1)).add HF.out.2)
  rename World => W13
  clear HF PV PM PN HP0 HPa HRa PC CS CA
  obtain ⟨x0, x1⟩ := (M.out.at 2 rfl).cells_n F.out.la
  obtain ⟨y0, y1⟩ := (M.out.at 1 rfl).cells_n F.out.lb
  go_wp2_with fail
  clear x0 x1 y0 y1
  have K := compose_any n0 na (M.out.at 2 rfl).sl (M.out.at 1 rfl).sl
  rw [F.out.e1, F.out.la, F.out.lb] at K
  have K := Lib.hid K
  refine (K.out).mono ?_
  intro e w14 h
  obtain ⟨A14, rfl, hs, hf, hb⟩ := map_at h (n := nb) F.out.lab
  have hN := (M.out.next hb).pushM (o := n0) (n := nb) F.out.lab hs
  obtain ⟨g14, eg⟩ : ∃ g : Nat, w14.heap.size = g := ⟨_, rfl⟩
  obtain ⟨V14, ev⟩ : ∃ V : World, w14.alloc (.cells #[.int .i64 n0, .slice A14 nb nb] 24) = V := ⟨_, rfl⟩
  rw [eg, ev] at hN
  replace M := Lib.hid hN
  clear h hs hf hb hN
  clear K
  obtain ⟨x0, x1⟩ := (M.out.at 2 rfl).cells_n F.out.lb
  obtain ⟨y0, y1⟩ := (M.out.at 1 rfl).cells_n F.out.lc
  go_wp2_with fail
  clear eg ev x0 x1 y0 y1
  have K := compose_any na nb (M.out.at 2 rfl).sl (M.out.at 1 rfl).sl
  rw [F.out.e2, F.out.lb, F.out.lc] at K
  have K := Lib.hid K
  refine (K.out).mono ?_
  intro e w16 h
  obtain ⟨A16, rfl, hs, hf, hb⟩ := map_at h (n := nc) F.out.lbc
  have hN := (M.out.next hb).pushM (o := na) (n := nc) F.out.lbc hs
  obtain ⟨g16, eg⟩ : ∃ g : Nat, w16.heap.size = g := ⟨_, rfl⟩
  obtain ⟨V16, ev⟩ : ∃ V : World, w16.alloc (.cells #[.int .i64 na, .slice A16 nc nc] 24) = V := ⟨_, rfl⟩
  rw [eg, ev] at hN
  replace M := Lib.hid hN
  clear h hs hf hb hN
  clear K
  obtain ⟨x0, x1⟩ := (M.out.at 1 rfl).cells_n F.out.lab
  obtain ⟨y0, y1⟩ := (M.out.at 2 rfl).cells_n F.out.lc
  go_wp2_with fail
  clear eg ev x0 x1 y0 y1
  have K := compose_any n0 nb (M.out.at 1 rfl).sl (M.out.at 2 rfl).sl
  rw [F.out.e3, F.out.lab, F.out.lc] at K
  have K := Lib.hid K
  refine (K.out).mono ?_
  intro e w18 h
  obtain ⟨A18, rfl, hs, hf, hb⟩ := map_at h (n := nc) F.out.lal
  have hN := (M.out.next hb).pushM (o := n0) (n := nc) F.out.lal hs
  obtain ⟨g18, eg⟩ : ∃ g : Nat, w18.heap.size = g := ⟨_, rfl⟩
  obtain ⟨V18, ev⟩ : ∃ V : World, w18.alloc (.cells #[.int .i64 n0, .slice A18 nc nc] 24) = V := ⟨_, rfl⟩
  rw [eg, ev] at hN
  replace M := Lib.hid hN
  clear h hs hf hb hN
  clear K
  obtain ⟨x0, x1⟩ := (M.out.at 5 rfl).cells_n F.out.la
  obtain ⟨y0, y1⟩ := (M.out.at 1 rfl).cells_n F.out.lbc
  go_wp2_with fail
  clear eg ev x0 x1 y0 y1
  have K := compose_any n0 na (M.out.at 5 rfl).sl (M.out.at 1 rfl).sl
  rw [F.out.e4, F.out.la, F.out.lbc] at K
  have K := Lib.hid K
  refine (K.out).mono ?_
  intro e w20 h
  obtain ⟨A20, rfl, hs, hf, hb⟩ := map_at h (n := nc) F.out.lal
  have hN := (M.out.next hb).pushM (o := n0) (n := nc) F.out.lal hs
  obtain ⟨g20, eg⟩ : ∃ g : Nat, w20.heap.size = g := ⟨_, rfl⟩
  obtain ⟨V20, ev⟩ : ∃ V : World, w20.alloc (.cells #[.int .i64 n0, .slice A20 nc nc] 24) = V := ⟨_, rfl⟩
  rw [eg, ev] at hN
  replace M := Lib.hid hN
  clear h hs hf hb hN
  clear K
  obtain ⟨x0, x1⟩ := (M.out.at 6 rfl).cells_n F.out.la
  obtain ⟨y0, y1⟩ := M.out.box8
  go_wp2_with fail
  clear eg ev x0 x1 y0 y1
  have K := after_n 0 ((HT0.out.1.below M.out.u).more M.out.u.size) HT0.out.2.1 HT0.out.2.2 (M.out.at 6 rfl).sl M.out.k7 F.out.la (by omega) ((congrArg List.length F.out.eab).trans F.out.lab)
  rw [F.out.eab] at K
  have K := Lib.hid K
  refine K.out.mono ?_
  rintro e w22 ⟨A22, c22, rfl, hs, hk, hb⟩
  have hN := (M.out.next hb).pushR hs
  replace M := Lib.hid hN
  have HK22 := Lib.hid hk
  clear K hs hk hb hN
  obtain ⟨y0, y1⟩ := M.out.box9
  go_wp2_with fail
  clear y0 y1
  have K := after_n 0 ((HU0.out.1.below M.out.u).more M.out.u.size) HU0.out.2.1 HU0.out.2.2 (M.out.row 0 rfl) HK22.out F.out.lab (by omega) ((congrArg List.length F.out.eal).trans F.out.lal)
  rw [F.out.eal] at K
  have K := Lib.hid K
  refine K.out.mono ?_
  rintro e w23 ⟨A23, c23, rfl, hs, hk, hb⟩
  have hN := (M.out.next hb).pushR hs
  replace M := Lib.hid hN
  clear K hs hk hb hN HK22
  obtain ⟨x0, x1⟩ := (M.out.at 3 rfl).cells_n F.out.lab
  obtain ⟨y0, y1⟩ := (M.out.at 6 rfl).cells_n F.out.la
  go_wp2_with fail
  clear x0 x1 y0 y1
  have K := same_any n0 0 c22 (M.out.at 3 rfl).sl.rd (M.out.row 1 rfl).rd (by rw [F.out.lab]; omega)
  rw [F.out.lab] at K
  have K := Lib.hid K
  refine (K.out).mono ?_
  rintro e s1 ⟨rfl, hb⟩
  replace M := Lib.hid (M.out.next hb)
  clear hb
  clear K
  obtain ⟨x0, x1⟩ := (M.out.at 1 rfl).cells_n F.out.lal
  obtain ⟨y0, y1⟩ := (M.out.at 6 rfl).cells_n F.out.la
  go_wp2_with fail
  clear x0 x1 y0 y1
  have K := same_any n0 0 c23 (M.out.at 1 rfl).sl.rd (M.out.row 0 rfl).rd (by rw [F.out.lal]; omega)
  rw [F.out.lal] at K
  have K := Lib.hid K
  refine (K.out).mono ?_
  rintro e s2 ⟨rfl, hb⟩
  replace M := Lib.hid (M.out.next hb)
  clear hb
  clear K
  obtain ⟨x0, x1⟩ := (M.out.at 0 rfl).cells_n F.out.lal
  obtain ⟨y0, y1⟩ := (M.out.at 6 rfl).cells_n F.out.la
  go_wp2_with fail
  clear x0 x1 y0 y1
  have K := same_any n0 0 c23 (M.out.at 0 rfl).sl.rd (M.out.row 0 rfl).rd (by rw [F.out.lal]; omega)
  rw [F.out.lal] at K
  have K := Lib.hid K
  refine (K.out).mono ?_
  rintro e s3 ⟨rfl, hb⟩
  replace M := Lib.hid (M.out.next hb)
  clear hb
  clear K
  obtain ⟨y0, y1⟩ := (M.out.at 6 rfl).cells_n F.out.la
  go_wp2_with fail
  clear y0 y1
  have K := mkSame_any n0 s3
  rw [sam_ok (by omega)] at K
  have K := Lib.hid K
  refine (K.out).mono ?_
  intro e w24 h
  obtain ⟨A24, rfl, hs, hf, hb⟩ := map_at h (n := n0) (idL_len n0)
  have hN := (M.out.next hb).pushM (o := n0) (n := n0) (idL_len n0) hs
  obtain ⟨g24, eg⟩ : ∃ g : Nat, w24.heap.size = g := ⟨_, rfl⟩
  obtain ⟨V24, ev⟩ : ∃ V : World, w24.alloc (.cells #[.int .i64 n0, .slice A24 n0 n0] 24) = V := ⟨_, rfl⟩
  rw [eg, ev] at hN
  replace M := Lib.hid hN
  clear h hs hf hb hN
  clear K
  go_wp2_with fail
  clear eg ev
  have K := mkSame_any na V24
  rw [sam_ok (by omega)] at K
  have K := Lib.hid K
  refine (K.out).mono ?_
  intro e w25 h
  obtain ⟨A25, rfl, hs, hf, hb⟩ := map_at h (n := na) (idL_len na)
  have hN := (M.out.next hb).pushM (o := na) (n := na) (idL_len na) hs
  obtain ⟨g25, eg⟩ : ∃ g : Nat, w25.heap.size = g := ⟨_, rfl⟩
  obtain ⟨V25, ev⟩ : ∃ V : World, w25.alloc (.cells #[.int .i64 na, .slice A25 na na] 24) = V := ⟨_, rfl⟩
  rw [eg, ev] at hN
  replace M := Lib.hid hN
  clear h hs hf hb hN
  clear K
  obtain ⟨x0, x1⟩ := (M.out.at 1 rfl).cells_n (idL_len n0)
  obtain ⟨y0, y1⟩ := (M.out.at 8 rfl).cells_n F.out.la
  go_wp2_with fail
  clear eg ev x0 x1 y0 y1
  have K := compose_any n0 n0 (M.out.at 1 rfl).sl (M.out.at 8 rfl).sl
  rw [F.out.e5, (idL_len n0), F.out.la] at K
  have K := Lib.hid K
  refine (K.out).mono ?_
  intro e w26 h
  obtain ⟨A26, rfl, hs, hf, hb⟩ := map_at h (n := na) F.out.la
  have hN := (M.out.next hb).pushM (o := n0) (n := na) F.out.la hs
  obtain ⟨g26, eg⟩ : ∃ g : Nat, w26.heap.size = g := ⟨_, rfl⟩
  obtain ⟨V26, ev⟩ : ∃ V : World, w26.alloc (.cells #[.int .i64 n0, .slice A26 na na] 24) = V := ⟨_, rfl⟩
  rw [eg, ev] at hN
  replace M := Lib.hid hN
  clear h hs hf hb hN
  clear K
  obtain ⟨x0, x1⟩ := (M.out.at 1 rfl).cells_n (idL_len na)
  obtain ⟨y0, y1⟩ := (M.out.at 9 rfl).cells_n F.out.la
  go_wp2_with fail
  clear eg ev x0 x1 y0 y1
  have K := compose_any n0 na (M.out.at 9 rfl).sl (M.out.at 1 rfl).sl
  rw [F.out.e6, F.out.la, (idL_len na)] at K
  have K := Lib.hid K
  refine (K.out).mono ?_
  intro e w27 h
  obtain ⟨A27, rfl, hs, hf, hb⟩ := map_at h (n := na) F.out.la
  have hN := (M.out.next hb).pushM (o := n0) (n := na) F.out.la hs
  obtain ⟨g27, eg⟩ : ∃ g : Nat, w27.heap.size = g := ⟨_, rfl⟩
  obtain ⟨V27, ev⟩ : ∃ V : World, w27.alloc (.cells #[.int .i64 n0, .slice A27 na na] 24) = V := ⟨_, rfl⟩
  rw [eg, ev] at hN
  replace M := Lib.hid hN
  clear h hs hf hb hN
  clear K
  obtain ⟨x0, x1⟩ := (M.out.at 1 rfl).cells_n F.out.la
  obtain ⟨y0, y1⟩ := (M.out.at 10 rfl).cells_n F.out.la
  go_wp2_with fail
  clear eg ev x0 x1 y0 y1
  have K := same_any n0 0 c7 (M.out.at 1 rfl).sl.rd (M.out.at 10 rfl).sl.rd (by rw [F.out.la]; omega)
  rw [F.out.la] at K
  have K := Lib.hid K
  refine (K.out).mono ?_
  rintro e s4 ⟨rfl, hb⟩
  replace M := Lib.hid (M.out.next hb)
  clear hb
  clear K
  obtain ⟨x0, x1⟩ := (M.out.at 0 rfl).cells_n F.out.la
  obtain ⟨y0, y1⟩ := (M.out.at 10 rfl).cells_n F.out.la
  go_wp2_with fail
  clear x0 x1 y0 y1
  have K := same_any n0 0 c7 (M.out.at 0 rfl).sl.rd (M.out.at 10 rfl).sl.rd (by rw [F.out.la]; omega)
  rw [F.out.la] at K
  have K := Lib.hid K
  refine (K.out).mono ?_
  rintro e s5 ⟨rfl, hb⟩
  replace M := Lib.hid (M.out.next hb)
  clear hb
  clear K
  go_wp2_with fail
  refine (lives_any s5).mono ?_
  rintro e s6 ⟨rfl, hb⟩
  replace M := Lib.hid (M.out.next hb)
  clear hb
  go_wp2_with fail
  go_ret
  exact ⟨rfl, M.out.u⟩
end Go.Proofs.Ytakgnpmfnechhaa
