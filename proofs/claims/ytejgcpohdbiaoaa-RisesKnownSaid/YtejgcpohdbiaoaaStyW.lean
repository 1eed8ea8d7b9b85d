/- Check, stay, Kept. -/
import Derived.Test.YtejgcpohdbiaoaaPlcW
import Derived.Test.YtejgcpohdbiaoaaLonW
namespace Go.Proofs.Ytejgcpohdbiaoaa
open Go.RowKit

set_option maxHeartbeats 1000000 in
theorem check_any {w : World} {A : Option Addr} {c : Nat} {l : List Int} (h : SlI w A c l) (hR : Rng l) :
    Calls Try.prog 23 #[.slice A l.length c] w fun e w' => e = .returned (.int .i64 (chk l)) ∧ Below w.heap.size w w' := by
  have H1 := Lib.hid (places_any h hR)
  clear h
  go_enter Try.func23, Try.ntmps23
  go_wp2_with fail
  refine H1.out.mono ?_
  rintro e w1 ⟨h1 | h1, hb⟩
  · obtain ⟨h0, rfl⟩ := h1
    have HB := Lib.hid hb
    clear hb h0
    go_wp2_with fail
    go_ret
    exact ⟨rfl, HB.out⟩
  · obtain ⟨h0, b, rfl, _, _⟩ := h1
    have HB := Lib.hid hb
    have HC := Lib.hid (chk_zero.2 h0)
    clear hb h0
    go_wp2_with fail
    go_ret
    exact ⟨ret_int HC.out.symm, HB.out⟩
/-- what stay hands back -/
def stayR (old now : List Int) : List Int × Int := if pairE old now = 0 then (nats (keptP old now), 0) else ([], pairE old now)
theorem rowX_of {f : Int} {old now : List Int} {w W : World} (hf : pairE old now = f) (h0 : f ≠ 0) (hb : Below w.heap.size w W) : RowX (stayR old now) w (.returned (.tuple #[.slice none 0 0, .int .i64 f])) W := by
  unfold stayR
  rw [hf, if_neg h0]
  exact rowX_err hb
theorem posF_at {l : List Int} {x : Int} (h : x ∈ l) : posF l x = some (atL l x) := by unfold posF; rw [if_pos h]
theorem posF_none {l : List Int} {x : Int} (h : x ∉ l) : posF l x = none := by unfold posF; rw [if_neg h]
/-- ahead of each round -/
structure StI (w wr : World) (b g : Nat) (old now : List Int) (i : Nat) : Prop where
  map : MpI wr b old.length (posF old)
  row : RI wr g ((posL old now).take i ++ List.replicate (now.length - i) 0)
  sub : ∀ x ∈ now.take i, x ∈ old
  u : Below w.heap.size w wr
  bg : b < g
  new : w.heap.size ≤ g
theorem StI.next {w wr w' : World} {b g : Nat} {old now : List Int} {i : Nat} (h : StI w wr b g old now i) (hb : Below wr.heap.size wr w') : StI w w' b g old now i :=
  ⟨h.map.next hb, h.row.next hb, h.sub, h.u.trans (hb.mono h.u.size), h.bg, h.new⟩
theorem StI.step {w wr : World} {b g : Nat} {old now : List Int} {i : Nat} (h : StI w wr b g old now i) (hi : i < now.length) (hm : now[i] ∈ old) : StI w (wr.setCell ⟨g, i, none⟩ (.int .i64 (atL old now[i]))) b g old now (i + 1) := by
  have hl := posL_len old now
  refine ⟨h.map.keep (Below.heap_setCell _ _ _ _ (by have := h.bg; show b ≠ g; omega)), ?_, fun x hx => ?_, h.u.setCell (by exact h.new) _, h.bg, h.new⟩
  · have h1 := h.row.set i (atL old now[i])
    obtain ⟨z, hz⟩ : ∃ z, now.length - i = z + 1 := ⟨now.length - i - 1, by omega⟩
    have e : ((posL old now).take i ++ List.replicate (now.length - i) 0).set i (atL old now[i]) = (posL old now).take (i + 1) ++ List.replicate (now.length - (i + 1)) 0 := by
      rw [List.set_append_right _ _ (by rw [List.length_take]; omega), List.length_take, hl, hz, List.replicate_succ, show i - min i now.length = 0 by omega, List.set_cons_zero, List.take_succ_eq_append_getElem (by omega), show now.length - (i + 1) = z by omega, List.append_assoc]
      simp [posL]
    rw [e] at h1
    exact h1
  · rw [List.take_succ_eq_append_getElem hi] at hx
    rcases List.mem_append.1 hx with hx | hx
    · exact h.sub x hx
    · obtain rfl := List.mem_singleton.1 hx
      exact hm
set_option maxRecDepth 100000 in
set_option maxHeartbeats 4000000 in
theorem stay_any {w : World} {A B : Option Addr} {c d : Nat} {old now : List Int} (ha : SlI w A c old) (hb : SlI w B d now) (hRa : Rng old) (hRb : Rng now) :
    Calls Try.prog 26 #[.slice A old.length c, .slice B now.length d] w (RowX (stayR old now) w) := by
  have H1 := Lib.hid (places_any ha hRa)
  have HB := Lib.hid hb
  have HRB := Lib.hid hRb
  have hla := ha.len
  have hlb := hb.len
  clear ha hb hRa hRb
  go_enter Try.func26, Try.ntmps26
  go_wp2_with fail
  refine H1.out.mono ?_
  rintro e w1 ⟨h1 | h1, hu⟩
  · obtain ⟨h0, rfl⟩ := h1
    have HU := Lib.hid hu
    have HE : Hid (pairE old now = chk old) := Lib.hid (by unfold pairE; rw [if_pos h0])
    have HZ := Lib.hid h0
    obtain ⟨f, hf⟩ : ∃ f, chk old = f := ⟨_, rfl⟩
    rw [hf] at HE HZ h0 ⊢
    have h0' : (f != 0) = true := by simpa using h0
    clear hu hf H1
    go_wp2_with fail
    go_ret2
    exact rowX_of HE.out HZ.out HU.out
  · obtain ⟨h0, b, rfl, hbn, hmp⟩ := h1
    have HU := Lib.hid hu
    have HO := Lib.hid h0
    have HM := Lib.hid hmp
    have HBN := Lib.hid hbn
    have hl4 := h0.len
    have H2 := Lib.hid (check_any (HB.out.next HU.out) HRB.out)
    clear hu h0 hmp H1 hbn
    go_wp2_with fail
    refine H2.out.mono ?_
    rintro e w2 ⟨rfl, hu2⟩
    have HU2 := Lib.hid (HU.out.trans (hu2.mono HU.out.size))
    have HM2 := Lib.hid (HM.out.next hu2)
    clear hu2 HM HU H2
    by_cases h2 : chk now = 0
    · have HN := Lib.hid (chk_zero.1 h2)
      have hn4 := HN.out.len
      have HC2 := Lib.hid h2
      rw [h2]
      clear h2
      by_cases h3 : old.length = now.length
      · have h3' : ((old.length : Int) != (now.length : Int)) = false := by simp [h3]
        have h3'' : ((old.length : Int) == (now.length : Int)) = true := by simp [h3]
        have hmk := make_ints now.length now.length now.length now.length rfl rfl (Nat.le_refl _) (by omega)
        have HE3 := Lib.hid h3
        clear h3
        go_upto_region 10 with fail
        obtain ⟨g, hg⟩ : ∃ g : Nat, w2.heap.size = g := ⟨_, rfl⟩
        obtain ⟨V, hV⟩ : ∃ V : World, w2.alloc (.cells (madeCells #[.int .i64 0] now.length) 3) = V := ⟨_, rfl⟩
        have H0 : Hid (StI w V b g old now 0) := Lib.hid (by
          rw [← hV, ← hg]
          exact ⟨HM2.out.next (below_new _ _), by simpa using RI.made w2 now.length, by simp, HU2.out.trans ((below_new _ _).mono HU2.out.size), HM2.out.lt, HU2.out.size⟩)
        rw [hV, hg]
        clear hV hmk hg HM2 HU2
        go_wp2_with fail
        go_loopw [37] (fun v wr => ∃ (i : Nat), v = .int .i64 i ∧ i ≤ now.length ∧ Hid (StI w wr b g old now i)) (fun v _ => now.length - (intOf v).toNat)
        case atStart => exact ⟨0, rfl, Nat.zero_le _, H0⟩
        case round =>
          clear H0
          obtain ⟨i, rfl, hi, HI⟩ := hrel
          by_cases hlt : i < now.length
          · have hrd : RdI wr w.heap.size B now := HB.out.rd.below HI.out.u
            obtain ⟨b', o, hA, hb', hc⟩ := hrd i hlt
            have hx := HRB.out.get hlt
            have hst := @StI.step w wr b g old now i HI.out hlt
            have hnot : now[i] ∉ old → pairE old now = 16 := fun h => by
              unfold pairE
              rw [if_neg (by simp [chk_zero.2 HO.out]), if_neg (by simp [HC2.out]), if_neg (by simp [HE3.out]), if_neg (fun h2 => h (h2 _ (List.getElem_mem hlt)))]
            obtain ⟨x, hxx⟩ : ∃ x, now[i] = x := ⟨_, rfl⟩
            rw [hxx] at hc hx hst hnot
            clear hrd hxx
            subst hA
            by_cases hm : x ∈ old
            · have HX := Lib.hid hx
              have HF := Lib.hid (posF_at hm)
              have HN2 := Lib.hid (hst hm)
              obtain ⟨z, hz⟩ : ∃ z, wr.cell? ⟨g, i, none⟩ = some (.int .i64 z) := ⟨_, HI.out.row.cell (List.getElem?_eq_getElem (by
                rw [List.length_append, List.length_take, posL_len, List.length_replicate]; omega))⟩
              have hf := HI.out.row.frozen i
              obtain ⟨y, hy⟩ : ∃ y, atL old x = y := ⟨_, rfl⟩
              rw [hy] at HF HN2
              clear hy hx hst hnot hm hb'
              go_wp2_with (at_lookup; refine wp_there rfl (.tmp 43) (.tmp 44) rfl b old.length _ rfl HI.out.map x _ rfl HX.out HF.out ?_)
              go_roundw
              case rel => exact ⟨i + 1, by go_num, by omega, HN2⟩
              case measure => simp [intOf]; omega
            · have HX := Lib.hid hx
              have HF := Lib.hid (posF_none hm)
              have HE := Lib.hid (hnot hm)
              clear hx hst hnot hm hb'
              go_wp2_with (at_lookup; refine wp_gone rfl (.tmp 43) (.tmp 44) rfl b old.length _ rfl HI.out.map x rfl HX.out HF.out ?_)
              go_ret2
              exact rowX_of HE.out (by decide) HI.out.u
          · obtain rfl : i = now.length := by omega
            have hE : pairE old now = 0 := by
              unfold pairE
              rw [if_neg (by simp [chk_zero.2 HO.out]), if_neg (by simp [HC2.out]), if_neg (by simp [HE3.out]), if_pos (fun x hx => HI.out.sub x (by rw [List.take_length]; exact hx))]
            have hrow := HI.out.row
            rw [Nat.sub_self, List.replicate_zero, List.append_nil, List.take_of_length_le (by rw [posL_len]; exact Nat.le_refl _)] at hrow
            have hcall := longest_any (hrow.sl (by rw [posL_len]; omega))
            have hlr : lonR (posL old now) = (nats (keptP old now), 0) := by unfold lonR keptP; rw [if_neg (by rw [posL_len]; omega)]
            rw [posL_len, hlr] at hcall
            have hsr : stayR old now = (nats (keptP old now), 0) := by unfold stayR; rw [if_pos hE]
            have HCL := Lib.hid hcall
            have HE := Lib.hid hE
            have HPL := Lib.hid (posL_len old now)
            obtain ⟨K, hK⟩ : ∃ K, nats (keptP old now) = K := ⟨_, rfl⟩
            rw [hK] at HCL hsr
            have HSR := Lib.hid hsr
            clear hE hrow hcall hlt hlr hsr hK
            go_wp2_with fail
            refine HCL.out.mono ?_
            rintro e w3 ⟨A3, rfl, hs3, hu3⟩
            have HS3 := Lib.hid hs3
            have HU3 := Lib.hid (HI.out.u.trans (hu3.mono HI.out.u.size))
            clear hs3 hu3 HCL
            go_wp2_with fail
            go_ret2
            rw [HSR.out]
            exact ⟨A3, rfl, HS3.out, HU3.out⟩
      · have h3' : ((old.length : Int) != (now.length : Int)) = true := by simp; omega
        have h3'' : ((old.length : Int) == (now.length : Int)) = false := by simp; omega
        have HE : Hid (pairE old now = 16) := Lib.hid (by
          unfold pairE
          rw [if_neg (by simp [chk_zero.2 HO.out]), if_neg (by simp [HC2.out]), if_pos (by exact h3)])
        clear h3
        go_wp2_with fail
        go_ret2
        exact rowX_of HE.out (by decide) HU2.out
    · have HE : Hid (pairE old now = chk now) := Lib.hid (by
        unfold pairE
        rw [if_neg (by simp [chk_zero.2 HO.out]), if_pos h2])
      have HZ := Lib.hid h2
      obtain ⟨f, hf⟩ : ∃ f, chk now = f := ⟨_, rfl⟩
      rw [hf] at HE HZ h2 ⊢
      have h0' : (f != 0) = true := by simpa using h2
      clear hf h2
      go_wp2_with fail
      go_ret2
      exact rowX_of HE.out HZ.out HU2.out
/-- what Kept hands back -/
def keptR (old now : List Int) : List Int × Int := if pairE old now = 0 then (keptL old now, 0) else ([], pairE old now)
theorem RowX.parts {r : List Int × Int} {w : World} {e : Ending} {w' : World} (h : RowX r w e w') : ∃ A, e = .returned (.tuple #[.slice A r.1.length r.1.length, .int .i64 r.2]) ∧ SlI w' A r.1.length r.1 ∧ Below w.heap.size w w' := h
/-- ahead of each round of Kept -/
structure KeI (w wr : World) (g : Nat) (A : Option Addr) (old now : List Int) (i : Nat) : Prop where
  row : RI wr g ((keptL old now).take i ++ List.replicate ((keptP old now).length - i) 0)
  pos : RdI wr g A (nats (keptP old now))
  u : Below w.heap.size w wr
  new : w.heap.size ≤ g
theorem keptL_len (old now : List Int) : (keptL old now).length = (keptP old now).length := by simp [keptL]
theorem KeI.step {w wr : World} {g : Nat} {A : Option Addr} {old now : List Int} {i : Nat} {x : Int} (h : KeI w wr g A old now i) (hi : i < (keptP old now).length) (hx : (keptL old now)[i]? = some x) : KeI w (wr.setCell ⟨g, i, none⟩ (.int .i64 x)) g A old now (i + 1) := by
  have hl := keptL_len old now
  refine ⟨?_, fun k hk => ?_, h.u.setCell (by exact h.new) _, h.new⟩
  · have h1 := h.row.set i x
    obtain ⟨z, hz⟩ : ∃ z, (keptP old now).length - i = z + 1 := ⟨(keptP old now).length - i - 1, by omega⟩
    have e : ((keptL old now).take i ++ List.replicate ((keptP old now).length - i) 0).set i x = (keptL old now).take (i + 1) ++ List.replicate ((keptP old now).length - (i + 1)) 0 := by
      have hx2 : (keptL old now)[i]'(by omega) = x := by
        rw [List.getElem?_eq_getElem (by omega)] at hx
        exact Option.some.inj hx
      rw [List.set_append_right _ _ (by rw [List.length_take]; omega), List.length_take, hl, hz, List.replicate_succ, show i - min i (keptP old now).length = 0 by omega, List.set_cons_zero, List.take_succ_eq_append_getElem (by omega), show (keptP old now).length - (i + 1) = z by omega, List.append_assoc, hx2]
      rfl
    rw [e] at h1
    exact h1
  · obtain ⟨b, o, e, hb, hc⟩ := h.pos k hk
    exact ⟨b, o, e, hb, (World.cell?_of_block (Below.heap_setCell wr _ _ b (by show b ≠ g; exact Nat.ne_of_lt hb))).trans hc⟩
set_option maxRecDepth 100000 in
set_option maxHeartbeats 4000000 in
theorem kept_any {w : World} {A B : Option Addr} {c d : Nat} {old now : List Int} (ha : SlI w A c old) (hb : SlI w B d now) (hRa : Rng old) (hRb : Rng now) :
    Calls Try.prog 14 #[.slice A old.length c, .slice B now.length d] w (RowX (keptR old now) w) := by
  have H1 := stay_any ha hb hRa hRb
  have HB := Lib.hid hb
  have hlb := hb.len
  clear ha hb hRa hRb
  by_cases h0 : pairE old now = 0
  · have e1 : stayR old now = (nats (keptP old now), 0) := by unfold stayR; rw [if_pos h0]
    have e2 : Hid (keptR old now = (keptL old now, 0)) := Lib.hid (by unfold keptR; rw [if_pos h0])
    rw [e1] at H1
    have H := Lib.hid H1
    obtain ⟨k1, k2⟩ := kept_ok old now
    have hn4 := (pairE_zero.1 h0).2.1.len
    have hK4 : (keptP old now).length ≤ 4096 := by have := moves_len old now; omega
    have HK2 := Lib.hid k2
    have hmk := make_ints (keptP old now).length (keptP old now).length (keptP old now).length (keptP old now).length rfl rfl (Nat.le_refl _) (by omega)
    clear e1 H1 h0 k1 k2
    go_enter Try.func14, Try.ntmps14
    go_wp2_with fail
    refine H.out.mono ?_
    rintro e w1 ⟨A1, rfl, hs1, hu1⟩
    have HS1 := Lib.hid hs1
    have HU1 := Lib.hid hu1
    have hnl := nats_len (keptP old now)
    clear hs1 hu1 H
    go_upto_region 5 with fail
    obtain ⟨g, hg⟩ : ∃ g : Nat, w1.heap.size = g := ⟨_, rfl⟩
    obtain ⟨V, hV⟩ : ∃ V : World, w1.alloc (.cells (madeCells #[.int .i64 0] (keptP old now).length) 3) = V := ⟨_, rfl⟩
    have H0 : Hid (KeI w V g A1 old now 0) := Lib.hid (by
      rw [← hV, ← hg]
      exact ⟨by simpa using RI.made w1 (keptP old now).length, HS1.out.rd.below (below_new _ _), HU1.out.trans ((below_new _ _).mono HU1.out.size), HU1.out.size⟩)
    rw [hV, hg]
    have HNL := Lib.hid hnl
    clear hV hmk hg HS1 HU1 hnl
    go_wp2_with fail
    go_loopw [25] (fun v wr => ∃ (i : Nat), v = .int .i64 i ∧ i ≤ (keptP old now).length ∧ Hid (KeI w wr g A1 old now i)) (fun v _ => (keptP old now).length - (intOf v).toNat)
    case atStart => exact ⟨0, rfl, Nat.zero_le _, H0⟩
    case round =>
      clear H0
      obtain ⟨i, rfl, hi, HI⟩ := hrel
      by_cases hlt : i < (keptP old now).length
      · obtain ⟨b', o, hA, hb', hc⟩ := HI.out.pos i (by rw [HNL.out]; exact hlt)
        have hp : (keptP old now)[i] < now.length := HK2.out _ (List.getElem_mem hlt)
        have hkx : (keptL old now)[i]? = some (now[(keptP old now)[i]]) := by
          unfold keptL
          rw [List.getElem?_map, List.getElem?_eq_getElem hlt]
          show some (now.getD _ 0) = _
          rw [getD_in hp]
        have HST := Lib.hid (HI.out.step hlt hkx)
        have hrd : RdI wr w.heap.size B now := HB.out.rd.below HI.out.u
        have hcp : (nats (keptP old now))[i]'(by rw [HNL.out]; exact hlt) = ((keptP old now)[i] : Nat) := by simp [nats]
        rw [hcp] at hc
        obtain ⟨b2, o2, hA2, hb2, hc2⟩ := hrd _ hp
        obtain ⟨z, hz⟩ : ∃ z, wr.cell? ⟨g, i, none⟩ = some (.int .i64 z) := ⟨_, HI.out.row.cell (List.getElem?_eq_getElem (by
          rw [List.length_append, List.length_take, keptL_len, List.length_replicate]; omega))⟩
        have hf := HI.out.row.frozen i
        generalize hpp : (keptP old now)[i] = p at *
        generalize hxx : now[p] = x at *
        subst hA; subst hA2
        clear hkx hrd hcp hb' hb2 hpp hxx
        go_wp2_with fail
        go_roundw
        case rel => exact ⟨i + 1, by go_num, by omega, HST⟩
        case measure => simp [intOf]; omega
      · obtain rfl : i = (keptP old now).length := by omega
        have hrow := HI.out.row
        rw [Nat.sub_self, List.replicate_zero, List.append_nil, List.take_of_length_le (by rw [keptL_len]; exact Nat.le_refl _)] at hrow
        have hs := hrow.sl (by rw [keptL_len]; omega)
        rw [keptL_len] at hs
        have HS := Lib.hid hs
        clear hrow hs hlt
        go_wp2_with fail
        go_ret2
        rw [e2.out]
        refine ⟨some ⟨g, 0, none⟩, ?_, ?_, HI.out.u⟩
        · show _ = Ending.returned (.tuple #[.slice _ (keptL old now).length (keptL old now).length, _])
          rw [keptL_len]; rfl
        · show SlI _ _ (keptL old now).length _
          rw [keptL_len]; exact HS.out
  · have e1 : stayR old now = ([], pairE old now) := by unfold stayR; rw [if_neg h0]
    have e2 : keptR old now = ([], pairE old now) := by unfold keptR; rw [if_neg h0]
    rw [e1] at H1
    rw [e2]
    obtain ⟨f, hf⟩ : ∃ f, pairE old now = f := ⟨_, rfl⟩
    rw [hf] at H1 h0 ⊢
    have H := Lib.hid H1
    have h0' : (f != 0) = true := by simpa using h0
    clear e1 e2 H1 hf
    go_enter Try.func14, Try.ntmps14
    go_wp2_with fail
    refine H.out.mono ?_
    rintro e w1 ⟨A1, rfl, hs1, hu1⟩
    have HU1 := Lib.hid hu1
    clear hs1 hu1 H
    go_wp2_with fail
    go_ret2
    exact rowX_err HU1.out
end Go.Proofs.Ytejgcpohdbiaoaa
