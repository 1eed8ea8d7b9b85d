/- Carry: some steps, one after another. -/
import Derived.Test.YtejgcpohdbiaoaaStyW
import Derived.Test.YtejgcpohdbiaoaaRngW
import Derived.Test.YtejgcpohdbiaoaaCarA
namespace Go.Proofs.Ytejgcpohdbiaoaa
open Go.RowKit

/-- all numbers of steps lie in the range of int -/
def RngP (ss : List (Int × Int)) : Prop := ∀ s ∈ ss, I64 s.1 ∧ I64 s.2
/-- what the map holds: the positions, and that of the end -/
def posE (l : List Int) : Int → Option Int := fun z => if z = -1 then some (l.length : Int) else posF l z
/-- ahead of each round -/
structure CaI (w wr : World) (b g : Nat) (l : List Int) (ss : List (Int × Int)) (k : Nat) (ls nx : Nat → Nat) (c : List Nat) : Prop where
  map : MpI wr b (l.length + 1) (posE l)
  rg : Rg wr g l.length ls nx
  cyc : Cyc ls nx l c
  rest : carL l ss = carL (c.map (lab l)) (ss.drop k)
  u : Below w.heap.size w wr
  bg : b < g
  new : w.heap.size ≤ b
theorem CaI.next {w wr w' : World} {b g : Nat} {l : List Int} {ss : List (Int × Int)} {k : Nat} {ls nx : Nat → Nat} {c : List Nat} (h : CaI w wr b g l ss k ls nx c) (hb : Below wr.heap.size wr w') : CaI w w' b g l ss k ls nx c :=
  ⟨h.map.next hb, h.rg.keep (hb.block g h.rg.lt), h.cyc, h.rest, h.u.trans (hb.mono h.u.size), h.bg, h.new⟩
theorem ohne {l : List Int} (h : Ord l) : (-1 : Int) ∉ l := fun hm => by have := h.nn _ hm; omega
theorem posE_end (l : List Int) : posE l (-1) = some (l.length : Int) := if_pos rfl
theorem posE_in {l : List Int} (h : Ord l) {x : Int} (hx : x ∈ l) : ∃ p : Nat, posE l x = some (p : Int) ∧ p < l.length ∧ lab l p = x := by
  have hne : x ≠ -1 := fun e => ohne h (e ▸ hx)
  have h1 := List.idxOf_lt_length_iff.2 hx
  refine ⟨l.idxOf x, ?_, h1, ?_⟩
  · unfold posE
    rw [if_neg hne, posF_at hx, atL_mem hx]
  · rw [lab_in h1]
    exact List.getElem_idxOf h1
theorem posE_none {l : List Int} {x : Int} (hx : x ∉ l) (h : x ≠ -1) : posE l x = none := by
  unfold posE
  rw [if_neg h, posF_none hx]
theorem CaI.err {w wr : World} {b g : Nat} {l : List Int} {ss : List (Int × Int)} {k : Nat} {ls nx : Nat → Nat} {c : List Nat} (h : CaI w wr b g l ss k ls nx c) (hk : k < ss.length) {f : Int} (hf : stepE l ss[k].1 ss[k].2 = f) (h0 : f ≠ 0) : carL l ss = ([], f) := by
  rw [h.rest, List.drop_eq_getElem_cons hk]
  simp only [carL]
  rw [stepE_perm h.cyc.list, hf, if_neg h0]
theorem rowX_car {l : List Int} {ss : List (Int × Int)} {w W : World} {f : Int} (ho : Ord l) (hl : ss.length ≤ 4096) (h : carL l ss = ([], f)) (hb : Below w.heap.size w W) : RowX (carryR l ss) w (.returned (.tuple #[.slice none 0 0, .int .i64 f])) W := by
  unfold carryR
  rw [if_pos (chk_zero.2 ho), if_neg (by omega), h]
  exact rowX_err hb
def hdE : List Nat → Nat → Nat
  | [], n => n
  | e :: _, _ => e
theorem hdE_eq (E : List Nat) (n : Nat) : (E ++ [n]).head (by simp) = hdE E n := by cases E <;> rfl
/-- ahead of each round of the second loop: D is done, E is left -/
structure CbI (w wr : World) (g h : Nat) (l : List Int) (ls nx : Nat → Nat) (cc D E : List Nat) : Prop where
  rg : Rg wr g l.length ls nx
  own : OwC wr w.heap.size h l.length (D.map (lab l))
  split : cc = D ++ E
  u : Below w.heap.size w wr
  gh : g < h
theorem CbI.next {w wr w' : World} {g h : Nat} {l : List Int} {ls nx : Nat → Nat} {cc D E : List Nat} (H : CbI w wr g h l ls nx cc D E) (hb : Below wr.heap.size wr w') : CbI w w' g h l ls nx cc D E :=
  ⟨H.rg.keep (hb.block g H.rg.lt), own_next H.own hb, H.split, H.u.trans (hb.mono H.u.size), H.gh⟩
theorem CbI.take {w wr w' : World} {g h : Nat} {l : List Int} {ls nx : Nat → Nat} {cc D E : List Nat} {e : Nat} (H : CbI w wr g h l ls nx cc D (e :: E)) (ho : OwC w' w.heap.size h l.length (D.map (lab l) ++ [lab l e])) (hb : Below w.heap.size wr w') (hg : wr.grownBy w' (some h)) : CbI w w' g h l ls nx cc (D ++ [e]) E :=
  ⟨H.rg.keep (hg.block g H.rg.lt (by have := H.gh; simp; omega)), by rw [List.map_append]; exact ho, by rw [H.split]; simp, H.u.trans hb, H.gh⟩
def lenOf : Value → Nat
  | .slice _ n _ => n
  | _ => 0
set_option maxRecDepth 100000 in
set_option maxHeartbeats 4000000 in
theorem carry_err {w : World} {A B : Option Addr} {c d : Nat} {l : List Int} {ss : List (Int × Int)} (ha : SlI w A c l) (hb : SlP w B d ss) (hRa : Rng l) (h0 : chk l ≠ 0 ∨ 4096 < ss.length) :
    Calls Try.prog 19 #[.slice A l.length c, .slice B ss.length d] w (RowX (carryR l ss) w) := by
  have H1 := Lib.hid (places_any ha hRa)
  have hlb := hb.len
  have HQ := Lib.hid h0
  clear ha hb hRa h0
  go_enter Try.func19, Try.ntmps19
  go_wp2_with fail
  refine H1.out.mono ?_
  rintro e w1 ⟨h1 | h1, hu⟩
  · obtain ⟨h0, rfl⟩ := h1
    have HU := Lib.hid hu
    have HE : Hid (carryR l ss = ([], chk l)) := Lib.hid (by unfold carryR; rw [if_neg h0])
    obtain ⟨f, hf⟩ : ∃ f, chk l = f := ⟨_, rfl⟩
    rw [hf] at h0 HE ⊢
    have h0' : (f != 0) = true := by simpa using h0
    clear hu hf H1 HQ
    go_wp2_with fail
    go_ret2
    rw [HE.out]
    exact rowX_err HU.out
  · obtain ⟨h0, b, rfl, hbn, hmp⟩ := h1
    have HU := Lib.hid hu
    have hl2 : 4096 < ss.length := by
      rcases HQ.out with h | h
      · exact absurd (chk_zero.2 h0) h
      · exact h
    have hl3 : (4096 : Int) < (ss.length : Int) := by omega
    have HE : Hid (carryR l ss = ([], 3)) := Lib.hid (by unfold carryR; rw [if_pos (chk_zero.2 h0), if_pos hl2])
    clear hu h0 hbn hmp H1 HQ
    go_wp2_with fail
    go_ret2
    rw [HE.out]
    exact rowX_err HU.out
set_option maxRecDepth 100000 in
set_option maxHeartbeats 4000000 in
theorem carry_ok {w : World} {A B : Option Addr} {c d : Nat} {l : List Int} {ss : List (Int × Int)} (ha : SlI w A c l) (hb : SlP w B d ss) (hRa : Rng l) (hRb : RngP ss) (ho : Ord l) (hl : ss.length ≤ 4096) :
    Calls Try.prog 19 #[.slice A l.length c, .slice B ss.length d] w (RowX (carryR l ss) w) := by
  have H1 := Lib.hid (places_any ha hRa)
  have hl4 := ho.len
  have HA := Lib.hid ha
  have HB := Lib.hid hb
  have HO := Lib.hid ho
  have HRB := Lib.hid hRb
  clear ha hb hRa hRb ho
  go_enter Try.func19, Try.ntmps19
  go_wp2_with fail
  refine H1.out.mono ?_
  rintro e w1 ⟨h1 | h1, hu⟩
  · exact absurd (chk_zero.2 HO.out) h1.1
  · obtain ⟨_, b, rfl, hbn, hmp⟩ := h1
    have HU := Lib.hid hu
    have HM := Lib.hid hmp
    have HBN := Lib.hid hbn
    have i1 : Hid (I64 (-1)) := Lib.hid (by unfold I64; omega)
    have i2 : Hid (I64 (l.length : Int)) := Lib.hid (by unfold I64; omega)
    have hl9 : l.length ≤ 100000 := by omega
    have HNR := Lib.hid (fun W => newRing_any l.length hl4 W)
    clear hu hmp hbn H1
    go_wp2_with (at_mapUpdate; refine wp_store rfl (.tmp 28) (.const (.int .i64 (-1))) (.tmp 30) rfl b l.length _ rfl HM.out hl9 (-1) l.length rfl rfl i1.out i2.out ?_; intro w3 H3 G3)
    refine (HNR.out w3).mono ?_
    rintro e w4 ⟨g, rfl, hrg, hu4, hgn⟩
    have H0 : Hid (CaI w w4 b g l ss 0 (fun i => (i + l.length) % (l.length + 1)) (fun i => (i + 1) % (l.length + 1)) (List.range l.length)) := Lib.hid {
      map := H3.out.next hu4
      rg := hrg
      cyc := Cyc.start l
      rest := by rw [lab_all]; rfl
      u := (HU.out.grown G3.out HU.out.size (fun k e => by injection e with e; rw [← e]; exact HBN.out)).trans (hu4.mono (Nat.le_trans HU.out.size G3.out.size))
      bg := by have := H3.out.lt; omega
      new := HBN.out }
    clear hrg hu4 hgn H3 G3 HM HU HNR i1 i2 HBN hl9
    go_wp2_with fail
    go_loopw [36] (fun v wr => ∃ (k : Nat) (ls nx : Nat → Nat) (cc : List Nat), v = .int .i64 k ∧ k ≤ ss.length ∧ Hid (CaI w wr b g l ss k ls nx cc)) (fun v _ => ss.length - (intOf v).toNat)
    case atStart => exact ⟨0, _, _, _, rfl, Nat.zero_le _, H0⟩
    case round =>
      clear H0
      obtain ⟨k, ls, nx, cc, rfl, hk, HI⟩ := hrel
      by_cases hlt : k < ss.length
      · have hrd : RdP wr w.heap.size B ss := HB.out.rd.below HI.out.u
        obtain ⟨b', o, hA, hb', hc0, hc1⟩ := hrd k hlt
        have hx := HRB.out _ (List.getElem_mem hlt)
        have herr := fun f => HI.out.err hlt (f := f)
        have hrest := HI.out.rest
        rw [List.drop_eq_getElem_cons hlt] at hrest
        simp only [carL] at hrest
        rw [stepE_perm HI.out.cyc.list] at hrest
        obtain ⟨x, hxx⟩ : ∃ x, ss[k].1 = x := ⟨_, rfl⟩
        obtain ⟨a, haa⟩ : ∃ a, ss[k].2 = a := ⟨_, rfl⟩
        rw [hxx] at hc0 hx herr hrest
        rw [haa] at hc1 hx herr hrest
        have HX := Lib.hid hx
        have HE := Lib.hid herr
        have HR := Lib.hid hrest
        subst hA
        clear hrd hx herr hrest hxx haa
        go_upto_region 11 with fail
        obtain ⟨vb, hvb⟩ : ∃ vb : Nat, wr.heap.size = vb := ⟨_, rfl⟩
        obtain ⟨V, hV⟩ : ∃ V : World, V = wr.alloc (.cells #[.int .i64 x, .int .i64 a] 50) := ⟨_, rfl⟩
        have hVv : V.heap[vb]? = some (.cells #[.int .i64 x, .int .i64 a] 50 (0, 0)) := by rw [hV]; exact new_at _ hvb
        have v0 : V.cell? ⟨vb, 0, none⟩ = some (.int .i64 x) := cell_of_row _ _ 0 _ 50 (0, 0) hVv
        have v1 : V.cell? ⟨vb, 1, none⟩ = some (.int .i64 a) := cell_of_row _ _ 1 _ 50 (0, 0) hVv
        have HI2 : Hid (CaI w V b g l ss k ls nx cc) := Lib.hid (HI.out.next (by rw [hV]; exact below_new _ _))
        rw [← hV, hvb]
        clear hV hVv hvb HI hc0 hc1 hb'
        by_cases hx1 : x = -1
        · -- the end is no number
          have hst : stepE l x a = 11 := by unfold stepE; rw [if_pos (.inl (hx1 ▸ ohne HO.out))]
          have HS := Lib.hid (HE.out 11 hst (by decide))
          have HF := Lib.hid (posE_end l)
          subst hx1
          clear hst HE HR
          go_wp2_with (at_lookup; first
            | (refine wp_there rfl (.tmp 41) (.tmp 43) rfl b _ _ rfl HI2.out.map (-1) _ rfl HX.out.1 HF.out ?_)
            | (refine wp_any rfl (.tmp 48) (.tmp 50) rfl b _ _ rfl HI2.out.map a rfl HX.out.2 ?_; intro z t; cases t))
          all_goals
            go_ret2
            exact rowX_car HO.out hl HS.out HI2.out.u
        · have hx2 : (x == (-1 : Int)) = false := by simpa using hx1
          by_cases hxl : x ∈ l
          · obtain ⟨p, hp, hpl, hlp⟩ := posE_in HO.out hxl
            have HF := Lib.hid hp
            by_cases ha : a = -1 ∨ a ∈ l
            · have hq : ∃ q : Nat, posE l a = some (q : Int) ∧ q ≤ l.length ∧ lab l q = a := by
                rcases ha with rfl | ha
                · exact ⟨l.length, posE_end l, Nat.le_refl _, lab_end l⟩
                · obtain ⟨q, h1, h2, h3⟩ := posE_in HO.out ha
                  exact ⟨q, h1, Nat.le_of_lt h2, h3⟩
              obtain ⟨q, hq, hql, hlq⟩ := hq
              have HF2 := Lib.hid hq
              have hst : stepE l x a = if x = a then 1 else 0 := by
                unfold stepE
                rw [if_neg (by
                  rintro (h | ⟨h1, h2⟩)
                  · exact h hxl
                  · rcases ha with h | h
                    · exact h1 h
                    · exact h2 h)]
              by_cases hxa : x = a
              · rw [if_pos hxa] at hst
                have HS := Lib.hid (HE.out 1 hst (by decide))
                have hpq : p = q := lab_inj HO.out (Nat.le_of_lt hpl) hql (by rw [hlp, hlq, hxa])
                subst hpq
                clear hst HE HR hx1 hxl ha hp hq hlp hlq hxa
                go_wp2_with (at_lookup; first
                  | (refine wp_there rfl (.tmp 41) (.tmp 43) rfl b _ _ rfl HI2.out.map x _ rfl HX.out.1 HF.out ?_)
                  | (refine wp_there rfl (.tmp 48) (.tmp 50) rfl b _ _ rfl HI2.out.map a _ rfl HX.out.2 HF2.out ?_))
                go_ret2
                exact rowX_car HO.out hl HS.out HI2.out.u
              · rw [if_neg hxa] at hst
                rw [if_pos hst] at HR
                have hpq : p ≠ q := fun e => hxa (by rw [← hlp, ← hlq, e])
                have hpq2 : ((p : Int) == (q : Int)) = false := by simp; omega
                obtain ⟨b1, b2, b3, c', hc', hlist⟩ := HI2.out.cyc.step HO.out hpl hql hpq
                rw [hlp, hlq] at hlist
                have HM := Lib.hid (move_any HI2.out.rg (Nat.le_of_lt hpl) hql hl4 b1 b2 b3)
                have HC := Lib.hid hc'
                have HL := Lib.hid hlist
                clear hst HE hx1 hxl ha hp hq hlp hlq hxa hpq b1 b2 b3 hc' hlist
                go_wp2_with (at_lookup; first
                  | (refine wp_there rfl (.tmp 41) (.tmp 43) rfl b _ _ rfl HI2.out.map x _ rfl HX.out.1 HF.out ?_)
                  | (refine wp_there rfl (.tmp 48) (.tmp 50) rfl b _ _ rfl HI2.out.map a _ rfl HX.out.2 HF2.out ?_))
                refine HM.out.mono ?_
                rintro e w5 ⟨rfl, hr, hg⟩
                have HN : Hid (CaI w w5 b g l ss (k + 1) _ _ c') := Lib.hid {
                  map := HI2.out.map.keep (hg.block b HI2.out.map.lt (by have := HI2.out.bg; simp; omega))
                  rg := hr
                  cyc := HC.out
                  rest := by rw [HR.out, HL.out]
                  u := HI2.out.u.grown hg HI2.out.u.size (fun k e => by injection e with e; rw [← e]; have := HI2.out.bg; have := HI2.out.new; omega)
                  bg := HI2.out.bg
                  new := HI2.out.new }
                clear hr hg HM
                go_wp2_with fail
                go_roundw
                case rel => exact ⟨k + 1, _, _, _, by go_num, by omega, HN⟩
                case measure => first | (simp [intOf]; done) | (simp [intOf]; omega)
            · simp only [not_or] at ha
              have hst : stepE l x a = 11 := by unfold stepE; rw [if_pos (.inr ha)]
              have HS := Lib.hid (HE.out 11 hst (by decide))
              have HF2 := Lib.hid (posE_none ha.2 ha.1)
              clear hst HE HR hx1 hxl ha hp hpl hlp
              go_wp2_with (at_lookup; first
                | (refine wp_there rfl (.tmp 41) (.tmp 43) rfl b _ _ rfl HI2.out.map x _ rfl HX.out.1 HF.out ?_)
                | (refine wp_gone rfl (.tmp 48) (.tmp 50) rfl b _ _ rfl HI2.out.map a rfl HX.out.2 HF2.out ?_))
              go_ret2
              exact rowX_car HO.out hl HS.out HI2.out.u
          · have hst : stepE l x a = 11 := by unfold stepE; rw [if_pos (.inl hxl)]
            have HS := Lib.hid (HE.out 11 hst (by decide))
            have HF := Lib.hid (posE_none hxl hx1)
            clear hst HE HR hx1 hxl
            go_wp2_with (at_lookup; first
              | (refine wp_gone rfl (.tmp 41) (.tmp 43) rfl b _ _ rfl HI2.out.map x rfl HX.out.1 HF.out ?_)
              | (refine wp_any rfl (.tmp 48) (.tmp 50) rfl b _ _ rfl HI2.out.map a rfl HX.out.2 ?_; intro z t))
            go_ret2
            exact rowX_car HO.out hl HS.out HI2.out.u
      · obtain rfl : k = ss.length := by omega
        have hrest := HI.out.rest
        rw [List.drop_length] at hrest
        have hcr : carryR l ss = (cc.map (lab l), 0) := by
          unfold carryR
          rw [if_pos (chk_zero.2 HO.out), if_neg (by omega), hrest]
          rfl
        have HCR := Lib.hid hcr
        have hnx := HI.out.rg.next (i := l.length) (Nat.le_refl _)
        have hmk := make_ints 0 l.length 0 l.length rfl rfl (Nat.zero_le _) (by omega)
        have HCY := Lib.hid HI.out.cyc
        have hfirst := HI.out.cyc.first
        rw [hdE_eq] at hfirst
        rw [hfirst] at hnx
        obtain ⟨h, hh⟩ : ∃ h : Nat, wr.heap.size = h := ⟨_, rfl⟩
        obtain ⟨V, hV⟩ : ∃ V : World, wr.alloc (.cells (madeCells #[.int .i64 0] l.length) 3) = V := ⟨_, rfl⟩
        have H0 : Hid (CbI w V g h l ls nx cc [] cc) := Lib.hid (by
          rw [← hV, ← hh]
          exact ⟨HI.out.rg.keep ((below_new wr _).block g HI.out.rg.lt), own_le (owc_made wr l.length (by omega)) HI.out.u.size, rfl, HI.out.u.trans ((below_new _ _).mono HI.out.u.size), HI.out.rg.lt⟩)
        have hnx2 : V.cell? ⟨g, l.length * 2 + 1, none⟩ = some (.int .i64 (hdE cc l.length : Nat)) := by
          rw [← hV]
          exact ((below_new wr _).cell (p := ⟨g, l.length * 2 + 1, none⟩) HI.out.rg.lt).trans hnx
        clear hrest hcr hlt hnx hfirst HI
        go_upto_region 20 with fail
        clear hV hmk hh
        go_wp2_with fail
        go_loopw [15, 16] (fun o v wr => ∃ (D E : List Nat), o = .slice (some ⟨h, 0, none⟩) D.length l.length ∧ v = .int .i64 (hdE E l.length : Nat) ∧ Hid (CbI w wr g h l ls nx cc D E)) (fun o _ _ => l.length - lenOf o)
        case atStart => exact ⟨[], cc, rfl, rfl, H0⟩
        case round =>
          clear H0 hnx2
          obtain ⟨D, E, rfl, rfl, HJ⟩ := hrel
          cases E with
          | nil =>
            have hsp := HJ.out.split
            rw [List.append_nil] at hsp
            subst hsp
            have hlen := HCY.out.len
            have hown := HJ.out.own
            have hu := HJ.out.u
            have hHd : hdE [] l.length = l.length := rfl
            rw [hHd]
            have HLN := Lib.hid hlen
            clear hlen hHd
            go_wp2_with fail
            go_ret2
            rw [HCR.out]
            exact rowX_own hown hu (by rw [List.length_map]) (by rw [List.length_map, HLN.out])
          | cons e E =>
            have hsp := HJ.out.split
            have he : e < l.length := HCY.out.ring.lt e (by rw [hsp]; simp)
            have hDl : D.length + 1 ≤ l.length := by
              have := HCY.out.len
              rw [hsp] at this
              simp at this
              omega
            have hnext := HCY.out.behind hsp
            rw [hdE_eq] at hnext
            have hHd : hdE (e :: E) l.length = e := rfl
            rw [hHd]
            have hrd : RdI wr w.heap.size A l := HA.out.rd.below HJ.out.u
            obtain ⟨b', o, hA, hb', hc0⟩ := hrd e he
            rw [← lab_in he] at hc0
            have HJ2 := Lib.hid (HJ.out.next (below_new wr (.cells #[.int .i64 (lab l e)] 3)))
            have hk0 : Hid ((wr.alloc (.cells #[.int .i64 (lab l e)] 3)).cell? ⟨wr.heap.size, 0, none⟩ = some (.int .i64 (lab l e))) := Lib.hid (cell_of_row _ _ 0 _ 3 (0, 0) (heap_alloc_new wr _))
            have HNx := Lib.hid hnext
            have hne : ((e : Int) == (l.length : Int)) = false := by simp; omega
            have hne2 : ((e : Int) != (l.length : Int)) = true := by simp; omega
            have hDm : (D.map (lab l)).length = D.length := List.length_map _
            have HDM := Lib.hid hDm
            generalize hxx : lab l e = x at *
            subst hA
            clear hsp hnext hrd hb' hDm
            go_wp2_with (
              at_builtin
              refine wp_fit rfl (.tmp 93) (.tmp 98) rfl w.heap.size h D.length l.length (D.map (lab l)) rfl HDM.out.symm HJ2.out.own wr.heap.size 1 x rfl hk0.out hDl HJ2.out.u.size ?_
              intro w3 H3 B3 G3
              have HN : Hid (CbI w w3 g h l ls nx cc (D ++ [e]) E) := Lib.hid (HJ2.out.take (by rw [hxx]; exact H3.out) B3.out G3.out)
              have c3 := HN.out.rg.next (i := e) (by omega)
              rw [HNx.out] at c3)
            go_roundw
            case rel => exact ⟨D ++ [e], E, by rw [List.length_append, List.length_singleton], rfl, HN⟩
            case measure => show l.length - (D.length + 1) < l.length - D.length; omega
theorem carry_any {w : World} {A B : Option Addr} {c d : Nat} {l : List Int} {ss : List (Int × Int)} (ha : SlI w A c l) (hb : SlP w B d ss) (hRa : Rng l) (hRb : RngP ss) :
    Calls Try.prog 19 #[.slice A l.length c, .slice B ss.length d] w (RowX (carryR l ss) w) := by
  by_cases h0 : chk l ≠ 0 ∨ 4096 < ss.length
  · exact carry_err ha hb hRa h0
  · simp only [not_or, Decidable.not_not] at h0
    exact carry_ok ha hb hRa hRb (chk_zero.1 h0.1) (by omega)
end Go.Proofs.Ytejgcpohdbiaoaa
