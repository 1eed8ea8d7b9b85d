/- The walk of the law SpansOf. -/
import Derived.Test.YtbkfebnggomhdaaLvAux
import Derived.Test.YtbkfebnggomhdaaShelf
import Derived.Test.YtbkfebnggomhdaaCnt
namespace Go.Proofs.Ytbkfebnggomhdaa
open Go.RowKit

def LivesSaid : Prop := ∀ w : World, Calls Try.prog 9 #[] w fun e w' => e = .returned (.bool true) ∧ Below w.heap.size w w'
theorem RdI.next {W W' : World} {A : Option Addr} {zs : List Int} (h : RdI W W.heap.size A zs) (hb : Below W.heap.size W W') : RdI W' W'.heap.size A zs := (h.below hb).more hb.size

set_option maxHeartbeats 1000000 in
theorem law2_long (hL : LivesSaid) (A : Option Addr) (c : Nat) (zs : List Int) (w : World) (hl : 60 < zs.length) (hl2 : zs.length ≤ 9223372036854775807) :
    Calls Try.prog 4 #[.slice A zs.length c] w fun e w' => e = .returned (.bool true) ∧ Below w.heap.size w w' := by
  have HL := Lib.hid hL; clear hL
  go_enter Try.func4, Try.ntmps4
  go_wp2_with fail
  refine (HL.out _).mono ?_
  rintro e w1 ⟨rfl, hb⟩
  go_wp2_with fail
  go_ret
  exact ⟨rfl, hb⟩

def Bad (z : Int) : Prop := z < 0 ∨ 1073741824 ≤ z
theorem not_inR {zs : List Int} (h : ¬ InR zs) : ∃ k, ∃ hk : k < zs.length, Bad zs[k] := by
  apply Classical.byContradiction
  intro hno
  refine h fun z hz => ?_
  obtain ⟨i, hi, rfl⟩ := List.getElem_of_mem hz
  apply Classical.byContradiction
  intro hb
  exact hno ⟨i, hi, by unfold Bad; omega⟩

set_option maxRecDepth 100000 in
set_option maxHeartbeats 2000000 in
theorem law2_bad (hL : LivesSaid) (A : Option Addr) (c : Nat) (zs : List Int) (w : World) (hr : RdI w w.heap.size A zs) (hl : zs.length ≤ 60) (hR : ¬ InR zs) :
    Calls Try.prog 4 #[.slice A zs.length c] w fun e w' => e = .returned (.bool true) ∧ Below w.heap.size w w' := by
  have HL := Lib.hid hL; clear hL
  obtain ⟨kb, hkb, hbad⟩ := not_inR hR
  have HB := Lib.hid hbad
  have h16 : Hid (∀ W, RdI W W.heap.size A zs → Calls Try.prog 16 #[.slice A zs.length c] W fun e w' => e = .returned (.tuple #[.slice none 0 0, .int .i64 4]) ∧ Below W.heap.size W w') :=
    fun W h => (ofF_any sorts_ok A c zs W h (by omega)).mono fun e w' hh => ⟨by have := hh.1.err (by rw [ofC_f hR]; decide); rwa [ofC_f hR] at this, hh.2⟩
  clear hR hbad
  go_enter Try.func4, Try.ntmps4
  go_wp2_with fail
  refine (h16.out _ hr).mono ?_
  rintro e w1 ⟨rfl, hb⟩
  go_wp2_with fail
  go_loopw [5] (fun ui wr => ∃ k : Nat, ui = .int .i64 k ∧ k ≤ kb ∧ Below w.heap.size w wr) (fun ui _ => zs.length - (intOf ui).toNat)
  case atStart => exact ⟨0, rfl, Nat.zero_le _, hb⟩
  case round =>
    obtain ⟨k, rfl, hk, hbr⟩ := hrel
    have hlt : k < zs.length := by omega
    obtain ⟨b, o, hA, hbl, c0⟩ := hr.below hbr k hlt
    subst hA
    have hle : Hid (¬ Bad zs[k] → k + 1 ≤ kb) := fun hn => by
      rcases Nat.lt_or_ge k kb with h | h
      · omega
      · obtain rfl : k = kb := by omega
        exact absurd HB.out hn
    generalize zs[k] = x at *
    by_cases h1 : x < 0
    · go_wp2_with fail
      refine (same_nil 4).mono ?_
      rintro e w2 ⟨rfl, k2⟩
      go_wp2_with fail
      refine (HL.out _).mono ?_
      rintro e w3 ⟨rfl, k3⟩
      go_wp2_with fail
      go_ret
      exact ⟨rfl, (hbr.trans (k2.mono hbr.size)).trans (k3.mono (Nat.le_trans hbr.size k2.size))⟩
    · by_cases h2 : 1073741824 ≤ x
      · go_wp2_with fail
        refine (same_nil 4).mono ?_
        rintro e w2 ⟨rfl, k2⟩
        go_wp2_with fail
        refine (HL.out _).mono ?_
        rintro e w3 ⟨rfl, k3⟩
        go_wp2_with fail
        go_ret
        exact ⟨rfl, (hbr.trans (k2.mono hbr.size)).trans (k3.mono (Nat.le_trans hbr.size k2.size))⟩
      · have hk1 : k + 1 ≤ kb := hle.out (by unfold Bad; omega)
        go_wp2_with fail
        go_roundw
        case rel => exact ⟨k + 1, by go_num, hk1, hbr⟩
        case measure => simp [intOf]; omega

theorem of_small {zs : List Int} {e : Ending} {w' : World} (hR : InR zs) (hl : zs.length ≤ 60) (h : OpRes (ofC zs) (fun i => decide (i ∈ zs)) e w') :
    ∃ A out, Val (-1) out ∧ (∀ i, hasB out i = decide (i ∈ zs)) ∧ out.length ≤ 60 ∧ e = .returned (.tuple #[.slice A out.length out.length, .int .i64 0]) ∧ Rd w' w'.heap.size A out ∧ cnt out = dcTo zs zs.length := by
  rcases h with ⟨_, out, ho, hi, hr⟩ | ⟨hne, _⟩
  · have h1 := dcTo_cnt hR zs.length (Nat.le_refl _)
    rw [List.take_length] at h1
    have h2 : sumB 0 out = dcTo zs zs.length := by rw [sumB_cnt ho (by omega), ← h1]; exact cntN_congr (fun i _ _ => hi i)
    have h3 := sumB_len ho
    have h4 := (dcTo_le zs zs.length).2
    rcases hr with ⟨_, A, he, hrd⟩ | ⟨hbad, _⟩
    · exact ⟨A, out, ho, hi, by omega, he, hrd, by rw [cnt_ok (chk_of_val ho (by omega)), h2]⟩
    · omega
  · exact absurd (ofC_t hR) hne
/-- is the k-th number not among the first j -/
def fst (zs : List Int) (x : Int) (j : Nat) : Bool := !decide (x ∈ zs.take j)
theorem fst_zero (zs : List Int) (x : Int) : fst zs x 0 = true := by simp [fst]
theorem fst_ne {zs : List Int} {x y : Int} {j : Nat} (h : zs.take (j + 1) = zs.take j ++ [y]) (hn : y ≠ x) : fst zs x (j + 1) = fst zs x j := by
  unfold fst; rw [h]; congr 1; rw [decide_eq_decide]; simp; intro e; exact absurd e.symm hn
theorem fst_eq {zs : List Int} {x y : Int} {j : Nat} (h : zs.take (j + 1) = zs.take j ++ [y]) (hn : y = x) : fst zs x (j + 1) = false := by
  unfold fst; rw [h, hn]; simp
theorem fst_f {zs : List Int} {x y : Int} {j : Nat} (h : zs.take (j + 1) = zs.take j ++ [y]) (hf : fst zs x j = false) : fst zs x (j + 1) = false := by
  unfold fst at *; rw [h]; simp at hf ⊢; exact fun hh => absurd hf hh
theorem dc_t {zs : List Int} {k : Nat} {x : Int} (hx : zs.getD k 0 = x) (h : fst zs x k = true) : dcTo zs (k + 1) = dcTo zs k + 1 := by
  have : ¬ x ∈ zs.take k := by simpa [fst] using h
  show dcTo zs k + (if zs.getD k 0 ∈ zs.take k then 0 else 1) = _
  rw [hx, if_neg this]
theorem dc_f {zs : List Int} {k : Nat} {x : Int} (hx : zs.getD k 0 = x) (h : fst zs x k = false) : dcTo zs (k + 1) = dcTo zs k := by
  have : x ∈ zs.take k := by simpa [fst] using h
  show dcTo zs k + (if zs.getD k 0 ∈ zs.take k then 0 else 1) = _
  rw [hx, if_pos this]; omega

set_option maxRecDepth 100000 in
set_option maxHeartbeats 4000000 in
theorem law2_ok (hL : LivesSaid) (A : Option Addr) (c : Nat) (zs : List Int) (w : World) (hr : RdI w w.heap.size A zs) (hl : zs.length ≤ 60) (hR : InR zs) :
    Calls Try.prog 4 #[.slice A zs.length c] w fun e w' => e = .returned (.bool true) ∧ Below w.heap.size w w' := by
  have HL := Lib.hid hL; clear hL
  have HR := Lib.hid hR
  have h16 : Hid (∀ W, RdI W W.heap.size A zs → Calls Try.prog 16 #[.slice A zs.length c] W fun e w' => (∃ B out, Val (-1) out ∧ (∀ i, hasB out i = decide (i ∈ zs)) ∧ out.length ≤ 60 ∧ e = .returned (.tuple #[.slice B out.length out.length, .int .i64 0]) ∧ Rd w' w'.heap.size B out ∧ cnt out = dcTo zs zs.length) ∧ Below W.heap.size W w') :=
    fun W h => (ofF_any sorts_ok A c zs W h (by omega)).mono fun e w' hh => ⟨of_small hR hl hh.1, hh.2⟩
  clear hR
  go_enter Try.func4, Try.ntmps4
  go_wp2_with fail
  refine (h16.out _ hr).mono ?_
  rintro e w1 ⟨⟨B, out, hv, hm, hlo, rfl, hrd, hcn⟩, hb⟩
  have HV := Lib.hid hv
  have HM := Lib.hid hm
  have HCN := Lib.hid hcn
  have hk0 := Lib.hid (chk_of_val hv (by omega))
  clear hv hm hcn h16
  go_wp2_with fail
  go_loopw [5] (fun ui wr => ∃ k : Nat, ui = .int .i64 k ∧ k ≤ zs.length ∧ Below w.heap.size w wr ∧ Rd wr wr.heap.size B out) (fun ui _ => zs.length - (intOf ui).toNat)
  case atStart => exact ⟨0, rfl, Nat.zero_le _, hb, hrd⟩
  case round =>
    obtain ⟨k, rfl, hk, hbr, hrd1⟩ := hrel
    by_cases hlt : k < zs.length
    · obtain ⟨b, o, hA, hbl, c0⟩ := hr.below hbr k hlt
      subst hA
      obtain ⟨m0, m1⟩ := HR.out _ (List.getElem_mem hlt)
      generalize zs[k] = x at *
      go_wp2_with fail
      go_roundw
      case rel => exact ⟨k + 1, by go_num, by omega, hbr, hrd1⟩
      case measure => simp [intOf]; omega
    · go_wp2_with fail
      refine (check_at out hrd1 rfl hk0.out (by omega)).mono ?_
      rintro e w2 ⟨rfl, k2⟩
      have hb2 : Below w.heap.size w w2 := hbr.trans (k2.mono hbr.size)
      have hrd2 := hrd1.next k2
      clear k2 hbr hrd1 hb hrd
      go_wp2_with fail
      clear hlt hk
      go_loopw [6, 7] (fun um ui wr => ∃ k : Nat, um = .int .i64 (dcTo zs k) ∧ ui = .int .i64 k ∧ k ≤ zs.length ∧ Below w.heap.size w wr ∧ Rd wr wr.heap.size B out) (fun _ ui _ => zs.length - (intOf ui).toNat)
      case atStart => exact ⟨0, rfl, rfl, Nat.zero_le _, hb2, hrd2⟩
      case round =>
        obtain ⟨k, rfl, rfl, hk, hbr, hrd3⟩ := hrel
        have hdl := dcTo_le zs k
        by_cases hlt : k < zs.length
        · obtain ⟨b, o, hA, hbl, c0⟩ := hr.below hbr k hlt
          subst hA
          have hget : zs.getD k 0 = zs[k] := by simp [List.getD, List.getElem?_eq_getElem hlt]
          have hdt := Lib.hid (fun h => dc_t hget h)
          have hdf := Lib.hid (fun h => dc_f hget h)
          have hhas : Hid (hasS out zs[k] = true) := by
            show hasS out zs[k] = true
            rw [hasS_ok hk0.out, HM.out]; exact decide_eq_true (List.getElem_mem hlt)
          clear hget
          generalize zs[k] = x at *
          have hi0 : (0 : Int) ≤ (k : Int) := Int.natCast_nonneg _
          have hi1 : (k : Int) < (zs.length : Int) := by omega
          go_wp2_with fail
          go_loopw [8, 9] (fun uf uj wi => ∃ (j : Nat) (f : Bool), uf = .bool f ∧ uj = .int .i64 j ∧ j ≤ k ∧ Hid (fst zs x j = f) ∧ Below w.heap.size w wi ∧ Rd wi wi.heap.size B out) (fun _ uj _ => k - (intOf uj).toNat)
          case atStart => exact ⟨0, true, rfl, rfl, Nat.zero_le _, fst_zero zs x, hbr, hrd3⟩
          case round =>
            obtain ⟨j, f, rfl, rfl, hj, hf, hbi, hrdi⟩ := hrel
            by_cases hjl : j < k
            · obtain ⟨b2, o2, hA2, _, c1⟩ := hr.below hbi j (by omega)
              obtain ⟨rfl, rfl⟩ : b = b2 ∧ o = o2 := by injection hA2 with hA; injection hA with h1 h2; exact ⟨h1, h2⟩
              clear hA2
              have c0' := (hbi.cell (p := ⟨b, o + k, none⟩) hbl).trans ((hbr.cell (p := ⟨b, o + k, none⟩) hbl).symm.trans c0)
              clear c0
              have htk := Lib.hid (take_snocI zs j (by omega))
              have hj0 : (0 : Int) ≤ (j : Int) := Int.natCast_nonneg _
              have hj1 : (j : Int) < (zs.length : Int) := by omega
              generalize zs[j] = y at *
              cases f with
              | false =>
                have hfn : Hid (fst zs x (j + 1) = false) := fst_f htk.out hf.out
                go_wp2_with fail
                go_quiet (fail)
                go_wp2_with fail
                go_roundw
                case rel => exact ⟨j + 1, false, rfl, by go_num, by omega, hfn, below_drewN hbi _, Rd.drewN hrdi _⟩
                case measure => simp [intOf]; omega
              | true =>
                by_cases hyx : y = x
                · have hfn : Hid (fst zs x (j + 1) = false) := fst_eq htk.out hyx
                  have hne : (y != x) = false := by simpa using hyx
                  clear hyx
                  go_wp2_with fail
                  go_quiet (fail)
                  go_wp2_with fail
                  go_roundw
                  case rel => exact ⟨j + 1, false, rfl, by go_num, by omega, hfn, below_drewN hbi _, Rd.drewN hrdi _⟩
                  case measure => simp [intOf]; omega
                · have hfn : Hid (fst zs x (j + 1) = true) := (fst_ne htk.out hyx).trans hf.out
                  have hne : (y != x) = true := by simpa using hyx
                  clear hyx
                  go_wp2_with fail
                  go_quiet (fail)
                  go_wp2_with fail
                  go_roundw
                  case rel => exact ⟨j + 1, true, rfl, by go_num, by omega, hfn, below_drewN hbi _, Rd.drewN hrdi _⟩
                  case measure => simp [intOf]; omega
            · have hjk : Hid (fst zs x k = f) := by
                have e : j = k := by omega
                subst e; exact hf.out
              clear hf
              have c0' := (hbi.cell (p := ⟨b, o + k, none⟩) hbl).trans ((hbr.cell (p := ⟨b, o + k, none⟩) hbl).symm.trans c0)
              clear c0
              cases f with
              | false =>
                have hdn := Lib.hid (hdf.out hjk.out)
                go_wp2_with fail
                refine (has_at out hrdi rfl hhas.out (by omega)).mono ?_
                rintro e w5 ⟨rfl, k5⟩
                have hb5 : Below w.heap.size w w5 := hbi.trans (k5.mono hbi.size)
                have hrd5 := hrdi.next k5
                clear k5
                go_wp2_with fail
                go_roundw
                case rel => exact ⟨k + 1, by rw [hdn.out], by go_num, by omega, hb5, hrd5⟩
                case measure => simp [intOf]; omega
              | true =>
                have hdn := Lib.hid (hdt.out hjk.out)
                go_wp2_with fail
                refine (has_at out hrdi rfl hhas.out (by omega)).mono ?_
                rintro e w5 ⟨rfl, k5⟩
                have hb5 : Below w.heap.size w w5 := hbi.trans (k5.mono hbi.size)
                have hrd5 := hrdi.next k5
                clear k5
                go_wp2_with fail
                go_roundw
                case rel => exact ⟨k + 1, by rw [hdn.out], by go_num, by omega, hb5, hrd5⟩
                case measure => simp [intOf]; omega
        · have hkn : Hid (cnt out = dcTo zs k) := by
            have e : k = zs.length := by omega
            subst e; exact HCN.out
          go_wp2_with fail
          refine (count_at out hrd3 rfl hkn.out (by omega)).mono ?_
          rintro e w5 ⟨rfl, k5⟩
          have hb5 : Below w.heap.size w w5 := hbr.trans (k5.mono hbr.size)
          clear k5
          go_wp2_with fail
          refine (HL.out _).mono ?_
          rintro e w6 ⟨rfl, k6⟩
          go_wp2_with fail
          go_ret
          exact ⟨rfl, hb5.trans (k6.mono hb5.size)⟩
theorem law2_any (hL : LivesSaid) (A : Option Addr) (c : Nat) (zs : List Int) (w : World) (hr : RdI w w.heap.size A zs) (hl2 : zs.length ≤ 9223372036854775807) :
    Calls Try.prog 4 #[.slice A zs.length c] w fun e w' => e = .returned (.bool true) ∧ Below w.heap.size w w' := by
  by_cases hl : 60 < zs.length
  · exact law2_long hL A c zs w hl hl2
  · by_cases hR : InR zs
    · exact law2_ok hL A c zs w hr (by omega) hR
    · exact law2_bad hL A c zs w hr (by omega) hR
end Go.Proofs.Ytbkfebnggomhdaa
