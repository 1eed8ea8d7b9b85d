/- The law RisesFewest. -/
import Derived.Test.YtejgcpohdbiaoaaLwM
import Derived.Test.YtejgcpohdbiaoaaRefC
namespace Go.Proofs.Ytejgcpohdbiaoaa
open Go.RowKit

/-- what the law has in memory: the steps, the old order, the one that came so far -/
structure L6 (w W : World) (C A1 A2 : Option Addr) (e c1 c2 : Nat) (ss : List (Int × Int)) (old m : List Int) : Prop where
  s : SlP W C e ss
  a : SlI W A1 c1 old
  m : SlI W A2 c2 m
  u : Below w.heap.size w W
theorem L6.next {w W W' : World} {C A1 A2 : Option Addr} {e c1 c2 : Nat} {ss : List (Int × Int)} {old m : List Int} (h : L6 w W C A1 A2 e c1 c2 ss old m) (hb : Below W.heap.size W W') : L6 w W' C A1 A2 e c1 c2 ss old m :=
  ⟨h.s.next hb, h.a.next hb, h.m.next hb, h.u.trans (hb.mono h.u.size)⟩
theorem carL_stop {l m : List Int} {s t : List (Int × Int)} {f : Int} (he : carL l s = (m, f)) (hf : f ≠ 0) : carL l (s ++ t) = (m, f) := by
  induction s generalizing l with
  | nil => simp only [carL, Prod.mk.injEq] at he; exact absurd he.2.symm hf
  | cons s r ih =>
    simp only [carL, List.cons_append] at he ⊢
    split at he
    · rename_i h1
      rw [if_pos h1]
      exact ih he
    · rename_i h1
      rw [if_neg h1]
      exact he
theorem carL_one (l : List Int) (x a : Int) : carL l [(x, a)] = stepR l x a := by
  unfold stepR
  simp only [carL]
theorem carL_snoc {old m : List Int} {ss : List (Int × Int)} {k : Nat} (hk : k < ss.length) {x a : Int} (e : ss[k] = (x, a)) (h : carL old (ss.take k) = (m, 0)) : carL old (ss.take (k + 1)) = stepR m x a := by
  rw [List.take_succ_eq_append_getElem hk, carL_app h, e, carL_one]
theorem step_len {l : List Int} (h : l.length ≤ 40) (hl : Ord l) (x a : Int) : (stepR l x a).1.length ≤ 40 := by
  unfold stepR
  split
  · rename_i he
    rw [(mvL_perm hl he).length_eq]; exact h
  · simp
theorem keepF {wr W W' : World} {b o k : Nat} {x a : Int} (hb : b < wr.heap.size) (h : W.cell? ⟨b, o + k * 2, none⟩ = some (.int .i64 x) ∧ W.cell? ⟨b, o + k * 2 + 1, none⟩ = some (.int .i64 a) ∧ Below wr.heap.size wr W) (hn : Below W.heap.size W W') :
    W'.cell? ⟨b, o + k * 2, none⟩ = some (.int .i64 x) ∧ W'.cell? ⟨b, o + k * 2 + 1, none⟩ = some (.int .i64 a) ∧ Below wr.heap.size wr W' := by
  have hl := Nat.lt_of_lt_of_le hb h.2.2.size
  exact ⟨(hn.cell (p := ⟨b, o + k * 2, none⟩) hl).trans h.1, (hn.cell (p := ⟨b, o + k * 2 + 1, none⟩) hl).trans h.2.1, h.2.2.trans (hn.mono h.2.2.size)⟩
set_option maxRecDepth 100000 in
set_option maxHeartbeats 4000000 in
theorem law6_any {w : World} {A B C : Option Addr} (c d : Nat) {e : Nat} {us vs : List Nat} {ss : List (Int × Int)} (N F : Nat) (hu : RdU w w.heap.size A us) (hv : RdU w w.heap.size B vs) (hN : N ≤ 255) (hF : F ≤ 255) (hlu : us.length ≤ 9223372036854775807) (hlv : vs.length ≤ 9223372036854775807)
    (hs : SlP w C e ss) (hr : RngP ss) :
    Calls Try.prog 6 #[.agg #[.int .u8 N, .int .u8 F, .slice A us.length c, .slice B vs.length d], .slice C ss.length e] w (YesB w) := by
  have hle := hs.le
  have hmx := hs.max
  obtain ⟨g, hg⟩ : ∃ g : Nat, w.heap.size = g := ⟨_, rfl⟩
  obtain ⟨V, hV⟩ : ∃ V : World, w.alloc (.cells #[.int .u8 N, .int .u8 F, .slice A us.length c, .slice B vs.length d] 34) = V := ⟨_, rfl⟩
  have hbox : V.heap[g]? = some (.cells #[.int .u8 N, .int .u8 F, .slice A us.length c, .slice B vs.length d] 34 (0, 0)) := by rw [← hV]; exact new_at _ hg
  have hbv : Below w.heap.size w V := by rw [← hV]; exact below_new _ _
  have HB := Lib.hid hbv
  by_cases hl : 20 < ss.length
  · have hl2 : (20 : Int) < (ss.length : Int) := by omega
    clear hs hu hv hbox hbv
    go_enter Try.func6, Try.ntmps6
    go_wp2_with fail
    refine (lives_any _).mono ?_
    rintro e w1 ⟨rfl, hb⟩
    have HB := Lib.hid (HB.out.trans (hb.mono HB.out.size))
    clear hb
    go_wp2_with fail
    go_ret
    exact ⟨rfl, HB.out⟩
  have hl2 : (ss.length : Int) ≤ 20 := by omega
  have HO : Hid (Calls Try.prog 13 #[.agg #[.int .u8 N, .int .u8 F, .slice A us.length c, .slice B vs.length d]] V (Both N F V)) := Lib.hid (of_any c d N F (fun k hk => by
    obtain ⟨b, o, e, hb, r⟩ := (hu.below hbv) k hk
    exact ⟨b, o, e, Nat.lt_of_lt_of_le hb hbv.size, r⟩) (fun k hk => by
    obtain ⟨b, o, e, hb, r⟩ := (hv.below hbv) k hk
    exact ⟨b, o, e, Nat.lt_of_lt_of_le hb hbv.size, r⟩) hN hF hlu hlv)
  have v0 : V.cell? ⟨g, 0, none⟩ = some (.int .u8 N) := cell_of_row _ _ 0 _ 34 (0, 0) hbox
  have v1 : V.cell? ⟨g, 1, none⟩ = some (.int .u8 F) := cell_of_row _ _ 1 _ 34 (0, 0) hbox
  have v2 : V.cell? ⟨g, 2, none⟩ = some (.slice A us.length c) := cell_of_row _ _ 2 _ 34 (0, 0) hbox
  have v3 : V.cell? ⟨g, 3, none⟩ = some (.slice B vs.length d) := cell_of_row _ _ 3 _ 34 (0, 0) hbox
  have HF := Lib.hid (show F ≤ 255 ∧ RngP ss from ⟨hF, hr⟩)
  have HSS := Lib.hid (hs.next hbv)
  clear hu hv hlu hlv hN hF hbox hbv hs hr
  go_enter Try.func6, Try.ntmps6
  go_wp2_with fail
  refine HO.out.mono ?_
  rintro e w1 ⟨old, now, A1, A2, c1, c2, hp1, hp2, rfl, hs1, hs2, hu⟩
  have hll := hs1.le
  have hml := hs1.max
  have hlo : old.length ≤ 40 := by rw [hp1.length_eq, numL_len]; omega
  have HQ := Lib.hid (show Ord old ∧ Rng old from ⟨(numL_ord N F).perm hp1, (numL_rng (N := N) HF.out.1).perm hp1⟩)
  have H : Hid (L6 w w1 C A1 A1 _ c1 c1 ss old old) := Lib.hid ⟨HSS.out.next hu, hs1, hs1, HB.out.trans (hu.mono HB.out.size)⟩
  clear hs1 hs2 hu HO v0 v1 v2 v3 hp1 hp2 hV hg HSS
  go_wp2_with fail
  go_loopw [7, 8, 9] (fun o fv v wr => ∃ (k : Nat) (m : List Int) (f : Int) (A3 : Option Addr) (c3 : Nat), k ≤ ss.length ∧ o = .slice A3 m.length c3 ∧ fv = .int .i64 f ∧ v = .int .i64 k ∧ m.length ≤ 40 ∧ Hid (carL old (ss.take k) = (m, f)) ∧ Hid (L6 w wr C A1 A3 _ c1 c3 ss old m)) (fun _ _ v _ => ss.length - (intOf v).toNat)
  case atStart => exact ⟨0, old, 0, A1, c1, Nat.zero_le _, rfl, rfl, rfl, hlo, Lib.hid rfl, H⟩
  case round =>
    clear H
    obtain ⟨k, m, f, A3, c3, hk, rfl, rfl, rfl, hm, HCL, H⟩ := hrel
    by_cases hlt : k < ss.length
    · by_cases hf : f = 0
      · subst hf
        obtain ⟨b, o, rfl, hb, hc0, hc1⟩ := H.out.s.rd k hlt
        obtain ⟨⟨x, a⟩, hx⟩ : ∃ p, ss[k] = p := ⟨_, rfl⟩
        rw [hx] at hc0 hc1
        have HSN := Lib.hid (carL_snoc hlt hx HCL.out)
        have HLN := Lib.hid (step_len hm (HQ.out.1.perm (carL_ok HQ.out.1 HCL.out)) x a)
        have HCr := Lib.hid (fun (W : World) (hW : Below wr.heap.size wr W) => refCarry_any (H.out.next hW).m (by omega) x a)
        have HK : Hid (wr.drew.cell? ⟨b, o + k * 2, none⟩ = some (.int .i64 x) ∧ wr.drew.cell? ⟨b, o + k * 2 + 1, none⟩ = some (.int .i64 a) ∧ Below wr.heap.size wr wr.drew) := Lib.hid ⟨hc0, hc1, (Below.refl _ _).drew⟩
        have HBB := Lib.hid hb
        obtain ⟨r, hrr⟩ : ∃ r, stepR m x a = r := ⟨_, rfl⟩
        rw [hrr] at HSN HLN HCr
        clear hx hb hc0 hc1 hrr
        go_upto_region 9 with fail
        go_region_held3 (fun w' => w'.cell? ⟨b, o + k * 2, none⟩ = some (.int .i64 x) ∧ w'.cell? ⟨b, o + k * 2 + 1, none⟩ = some (.int .i64 a) ∧ Below wr.heap.size wr w')
          (first
            | with_reducible exact HK.out
            | with_reducible exact keepF HBB.out (by assumption) k1
            | go_keep)
          (first | (go_at_call_of 20 (Value.slice A3 m.length c3); (with_reducible refine (HCr.out _ ?_).mono ?_); (exact (‹_ ∧ _ ∧ Below wr.heap.size wr _›).2.2); rintro e w1 ⟨A4, c4, rfl, hs4, k1⟩))
        have hbw : Below wr.heap.size wr w1 := (‹_ ∧ _ ∧ Below wr.heap.size wr _›).2.2
        have HN := Lib.hid (show L6 w w1 _ A1 A4 e c1 c4 ss old r.1 from ⟨(H.out.next hbw).s, (H.out.next hbw).a, hs4, (H.out.next hbw).u⟩)
        clear hbw hs4 k1 HCr HK HBB H
        go_wp2_with fail
        go_roundw
        case rel => exact ⟨k + 1, r.1, r.2, A4, c4, by omega, rfl, rfl, by go_num, HLN.out, HSN, HN⟩
        case measure => first | (simp [intOf]; done) | (simp [intOf]; omega)
      · have hcl : carL old ss = (m, f) := by
          have := carL_stop (t := ss.drop k) HCL.out hf
          rwa [List.take_append_drop] at this
        obtain rfl : m = [] := by
          have := carL_err (l := old) (s := ss) (by rw [hcl]; exact hf)
          rwa [hcl] at this
        have HR : Hid (carryR old ss = ([], f)) := Lib.hid (by
          unfold carryR
          rw [if_pos (chk_zero.2 HQ.out.1), if_neg (by omega), hcl])
        clear hcl HCL
        go_wp2_with fail
        have HX := carry_any H.out.a H.out.s HQ.out.2 HF.out.2
        rw [HR.out] at HX
        refine HX.mono ?_
        clear HX
        rintro e w2 ⟨A4, rfl, hs, hu⟩
        have HU := Lib.hid (H.out.next hu).u
        clear hs hu H
        simp only [List.length_nil]
        go_wp2_with fail
        refine (same_any (zs := []) (f := f) 0 RdI.nil RdI.nil (by simp)).mono ?_
        rintro e w3 ⟨rfl, m5, rfl⟩
        replace HU := Lib.hid (HU.out.trans ((below_drewN w2 m5).mono HU.out.size))
        generalize w2.drewN m5 = w3 at *
        go_wp2_with fail
        refine (lives_any w3).mono ?_
        rintro e w4 ⟨rfl, hb⟩
        have HB := Lib.hid (HU.out.trans (hb.mono HU.out.size))
        clear hb
        go_wp2_with fail
        go_ret
        exact ⟨rfl, HB.out⟩
    · obtain rfl : k = ss.length := by omega
      have hcl := HCL.out
      rw [List.take_length] at hcl
      have HR : Hid (carryR old ss = (m, f)) := Lib.hid (by
        unfold carryR
        rw [if_pos (chk_zero.2 HQ.out.1), if_neg (by omega), hcl])
      by_cases hf : f = 0
      · subst hf
        have hpm := carL_ok HQ.out.1 hcl
        have hfw := fewest HQ.out.1 hcl
        obtain ⟨s, hs⟩ : ∃ s, movesL old m = s := ⟨_, rfl⟩
        have hmv : movesR old m = (s, 0) := by
          unfold movesR
          rw [if_pos (pairE_zero.2 ⟨HQ.out.1, HQ.out.1.perm hpm, hpm⟩), hs]
        rw [hs] at hfw
        have HM := Lib.hid (show _ ∧ Rng m from ⟨hmv, HQ.out.2.perm hpm⟩)
        have hfi : (s.length : Int) ≤ (ss.length : Int) := by omega
        clear hpm hfw hs hmv hcl HCL
        have hm3 := H.out.m.max
        have hm4 := H.out.m.le
        go_wp2_with fail
        have HX := carry_any H.out.a H.out.s HQ.out.2 HF.out.2
        rw [HR.out] at HX
        refine HX.mono ?_
        clear HX HR
        rintro e w2 ⟨A4, rfl, hs, hu⟩
        replace H := Lib.hid (H.out.next hu)
        have HT := Lib.hid hs
        clear hs hu
        go_wp2_with fail
        have HX := moves_any H.out.a H.out.m HQ.out.2 HM.out.2
        rw [HM.out.1] at HX
        refine HX.mono ?_
        clear HX
        rintro e w3 ⟨A5, rfl, hs, hu⟩
        replace H := Lib.hid (H.out.next hu)
        have HS4 := Lib.hid (same_any (f := 0) c3 (HT.out.next hu).rd H.out.m.rd H.out.m.len)
        clear hs hu HT
        go_wp2_with fail
        refine HS4.out.mono ?_
        rintro e w4 ⟨rfl, m5, rfl⟩
        have HU := Lib.hid (H.out.next (below_drewN w3 m5)).u
        clear HS4 H
        generalize w3.drewN m5 = w4 at *
        go_wp2_with fail
        refine (lives_any w4).mono ?_
        rintro e w5 ⟨rfl, hb⟩
        have HB := Lib.hid (HU.out.trans (hb.mono HU.out.size))
        clear hb
        go_wp2_with fail
        go_ret
        exact ⟨rfl, HB.out⟩
      · obtain rfl : m = [] := by
          have := carL_err (l := old) (s := ss) (by rw [hcl]; exact hf)
          rwa [hcl] at this
        clear hcl HCL
        go_wp2_with fail
        have HX := carry_any H.out.a H.out.s HQ.out.2 HF.out.2
        rw [HR.out] at HX
        refine HX.mono ?_
        clear HX
        rintro e w2 ⟨A4, rfl, hs, hu⟩
        have HU := Lib.hid (H.out.next hu).u
        clear hs hu H
        simp only [List.length_nil]
        go_wp2_with fail
        refine (same_any (zs := []) (f := f) 0 RdI.nil RdI.nil (by simp)).mono ?_
        rintro e w3 ⟨rfl, m5, rfl⟩
        replace HU := Lib.hid (HU.out.trans ((below_drewN w2 m5).mono HU.out.size))
        generalize w2.drewN m5 = w3 at *
        go_wp2_with fail
        refine (lives_any w3).mono ?_
        rintro e w4 ⟨rfl, hb⟩
        have HB := Lib.hid (HU.out.trans (hb.mono HU.out.size))
        clear hb
        go_wp2_with fail
        go_ret
        exact ⟨rfl, HB.out⟩
end Go.Proofs.Ytejgcpohdbiaoaa
