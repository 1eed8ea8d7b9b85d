/- Longest: the least longest rising subsequence. -/
import Derived.Test.YtejgcpohdbiaoaaLenW
import Derived.Deep.CutBlock
namespace Go.Proofs.Ytejgcpohdbiaoaa
open Go.RowKit

theorem sel_zero (cs : List Nat) (i : Nat) : sel cs i 0 = [] := by cases cs <;> simp [sel]
theorem lenF_get {l : List Int} {i : Nat} (h : i < l.length) : (lenF l)[i]? = some (mx l[i] (l.drop (i + 1)) + 1) := by
  have := lenF_drop l i
  rw [List.drop_eq_getElem_cons h] at this
  have h2 : ((lenF l).drop i)[0]? = (lenF (l[i] :: l.drop (i + 1)))[0]? := by rw [this]
  simpa [lenF] using h2
/-- ahead of each round -/
structure LgI (w wr : World) (g h : Nat) (l : List Int) (i : Nat) (S : List Nat) : Prop where
  row : RI wr g (nats (lenF l))
  own : OwC wr w.heap.size h (top l) (nats S)
  rest : S ++ sel (lenF (l.drop i)) i (top l - S.length) = longR l
  le : S.length ≤ top l
  u : Below w.heap.size w wr
  gh : g < h
theorem LgI.skip {w wr : World} {g h : Nat} {l : List Int} {i : Nat} {S : List Nat} (H : LgI w wr g h l i S) (hi : i < l.length) (h0 : S.length ≠ top l) (hc : mx l[i] (l.drop (i + 1)) + 1 ≠ top l - S.length) : LgI w wr g h l (i + 1) S := by
  refine ⟨H.row, H.own, ?_, H.le, H.u, H.gh⟩
  have h1 := H.rest
  have h2 := H.le
  rw [List.drop_eq_getElem_cons hi] at h1
  simp only [lenF, sel] at h1
  rw [if_neg (by omega), if_neg hc] at h1
  exact h1
theorem LgI.take {w wr w' : World} {g h : Nat} {l : List Int} {i : Nat} {S : List Nat} (H : LgI w wr g h l i S) (hi : i < l.length) (_h0 : S.length ≠ top l) (hc : mx l[i] (l.drop (i + 1)) + 1 = top l - S.length)
    (ho : OwC w' w.heap.size h (top l) (nats S ++ [(i : Int)])) (hb : Below w.heap.size wr w') (hg : wr.grownBy w' (some h)) : LgI w w' g h l (i + 1) (S ++ [i]) := by
  have h1 := H.rest
  have h2 := H.le
  refine ⟨H.row.keep (hg.block g H.row.lt (by have := H.gh; simp; omega)), ?_, ?_, by rw [List.length_append, List.length_singleton]; omega, H.u.trans hb, H.gh⟩
  · have e : nats (S ++ [i]) = nats S ++ [(i : Int)] := by simp [nats]
    rw [e]; exact ho
  · rw [List.drop_eq_getElem_cons hi] at h1
    simp only [lenF, sel] at h1
    rw [if_neg (by omega), if_pos hc] at h1
    rw [List.append_assoc, List.length_append, List.length_singleton]
    rw [show top l - (S.length + 1) = top l - S.length - 1 by omega]
    exact h1
theorem LgI.next {w wr w' : World} {g h : Nat} {l : List Int} {i : Nat} {S : List Nat} (H : LgI w wr g h l i S) (hb : Below wr.heap.size wr w') : LgI w w' g h l i S :=
  ⟨H.row.next hb, own_next H.own hb, H.rest, H.le, H.u.trans (hb.mono H.u.size), H.gh⟩
/-- what Longest hands back -/
def lonR (l : List Int) : List Int × Int := if 4096 < l.length then ([], 3) else (nats (longR l), 0)
set_option maxRecDepth 100000 in
set_option maxHeartbeats 4000000 in
theorem longest_any {w : World} {A : Option Addr} {c : Nat} {l : List Int} (h : SlI w A c l) :
    Calls Try.prog 10 #[.slice A l.length c] w (RowX (lonR l) w) := by
  have hle := h.le
  have hmx := h.max
  unfold lonR
  by_cases hl : 4096 < l.length
  · rw [if_pos hl]
    have hl2 : (4096 : Int) < (l.length : Int) := by omega
    clear h
    go_enter Try.func10, Try.ntmps10
    go_wp2_with fail
    go_step3
    go_wp2_with fail
    try rw [Exit.noGoto_ret]
    go_ret2
    exact rowX_err (Below.refl _ _)
  · rw [if_neg hl]
    have hl2 : (l.length : Int) ≤ 4096 := by omega
    have H1 := Lib.hid (lengths_any h (by omega))
    have htop := top_le l
    clear h
    go_enter Try.func10, Try.ntmps10
    go_wp2_with fail
    go_step3
    go_wp2_with fail
    refine H1.out.mono ?_
    rintro e w1 ⟨⟨g, rfl, hg⟩, hb⟩
    have HG := Lib.hid hg
    have HB := Lib.hid hb
    have HL := Lib.hid (show (lenF l).length = l.length from lenF_len l)
    have hmk := make_ints 0 (top l) 0 (top l) rfl rfl (Nat.zero_le _) (by omega)
    clear hg hb H1
    go_upto_region 5 with fail
    obtain ⟨h, hh⟩ : ∃ h : Nat, w1.heap.size = h := ⟨_, rfl⟩
    obtain ⟨V, hV⟩ : ∃ V : World, w1.alloc (.cells (madeCells #[.int .i64 0] (top l)) 3) = V := ⟨_, rfl⟩
    have H0 : Hid (LgI w V g h l 0 []) := Lib.hid (by
      rw [← hV, ← hh]
      exact ⟨HG.out.next (below_new _ _), own_le (owc_made w1 (top l) (by omega)) HB.out.size, by simp [longR], Nat.zero_le _, HB.out.trans ((below_new _ _).mono HB.out.size), HG.out.lt⟩)
    rw [hV, hh]
    have HT := Lib.hid htop
    clear hV hh hmk HG HB hle hmx htop
    go_wp2_with fail
    go_step3
    go_wp2_with fail
    go_loopw [6, 21] (fun o v wr => ∃ (i : Nat) (S : List Nat), o = .slice (some ⟨h, 0, none⟩) S.length (top l) ∧ v = .int .i64 i ∧ i ≤ l.length ∧ Hid (LgI w wr g h l i S)) (fun _ v _ => l.length - (intOf v).toNat)
    case atStart => exact ⟨0, [], rfl, rfl, Nat.zero_le _, H0⟩
    case round =>
      clear H0
      obtain ⟨i, S, rfl, rfl, hi, HI⟩ := hrel
      by_cases hlt : i < l.length
      · have hc := HI.out.row.cell (i := i) (x := ((mx l[i] (l.drop (i + 1)) + 1 : Nat) : Int)) (by
          have := lenF_get hlt
          unfold nats
          rw [List.getElem?_map, this]
          rfl)
        have hSl := HI.out.le
        have HK := Lib.hid (fun h1 h2 => HI.out.skip hlt h1 h2)
        have HTk := Lib.hid (fun h1 h2 (w' : World) => HI.out.take (w' := w') hlt h1 h2)
        obtain ⟨k, hk⟩ : ∃ k, mx l[i] (l.drop (i + 1)) + 1 = k := ⟨_, rfl⟩
        rw [hk] at hc HK HTk
        obtain ⟨d, hd⟩ : ∃ d, top l - S.length = d := ⟨_, rfl⟩
        rw [hd] at HK HTk
        have hd2 : ((top l : Nat) : Int) - (S.length : Int) = (d : Int) := by omega
        have hT := HT.out
        have hd3 : d ≤ 4096 := by omega
        have hT2 : top l ≤ 4096 := by omega
        clear hk hT
        rcases Nat.eq_zero_or_pos d with rfl | hp
        · -- nothing more is needed
          have hRest := HI.out.rest
          rw [hd, sel_zero, List.append_nil] at hRest
          have HR := Lib.hid hRest
          have hown := HI.out.own
          have hu := HI.out.u
          have hlen := longR_len l
          clear hRest hd HK HTk
          go_wp2_with fail
          try rw [Exit.noGoto_ret]
          go_ret2
          have hS := HR.out
          subst hS
          exact rowX_own hown hu (by rw [nats_len]) (by rw [nats_len, hlen])
        · have hz : ((d : Int) == 0) = false := by simp; omega
          have hne : S.length ≠ top l := by omega
          by_cases hdk : k = d
          · subst hdk
            have HN := Lib.hid (fun w' : World => HTk.out hne rfl w')
            have HI2 := Lib.hid (HI.out.next (below_new wr (.cells #[.int .i64 (i : Int)] 3)))
            have hk0 : Hid ((wr.alloc (.cells #[.int .i64 (i : Int)] 3)).cell? ⟨wr.heap.size, 0, none⟩ = some (.int .i64 i)) := Lib.hid (cell_of_row _ _ 0 _ 3 (0, 0) (heap_alloc_new wr _))
            have hroom : (nats S).length + 1 ≤ top l := by rw [nats_len]; omega
            clear HK HTk hd hne
            go_wp2_with (
              at_builtin
              refine wp_fit rfl (.tmp 35) (.tmp 37) rfl w.heap.size h (nats S).length (top l) (nats S) (by rw [nats_len]; rfl) rfl HI2.out.own wr.heap.size 1 i rfl hk0.out hroom HI2.out.u.size ?_
              intro w3 H3 B3 G3)
            have HF := Lib.hid (HN.out w3 H3.out (((below_new wr _).mono HI.out.u.size).trans B3.out) ((World.grownBy_alloc wr _ _).trans G3.out))
            go_roundw
            case rel => exact ⟨i + 1, S ++ [i], by rw [List.length_append, List.length_singleton, nats_len], by go_num, by omega, HF⟩
            case measure => simp [intOf]; omega
          · have hz2 : ((d : Int) == (k : Int)) = false := by simp; omega
            have HN := Lib.hid (HK.out hne hdk)
            clear HK HTk hd hne hdk
            go_wp2_with fail
            go_roundw
            case rel => exact ⟨i + 1, S, rfl, by go_num, by omega, HN⟩
            case measure => simp [intOf]; omega
      · obtain rfl : i = l.length := by omega
        have hRest := HI.out.rest
        rw [List.drop_length, show lenF [] = [] from rfl, show sel [] l.length (top l - S.length) = [] from rfl, List.append_nil] at hRest
        have HR := Lib.hid hRest
        have hown := HI.out.own
        have hu := HI.out.u
        have hlen := longR_len l
        clear hRest
        go_wp2_with fail
        try rw [Exit.noGoto_ret]
        go_ret2
        have hS := HR.out
        subst hS
        exact rowX_own hown hu (by rw [nats_len]) (by rw [nats_len, hlen])
end Go.Proofs.Ytejgcpohdbiaoaa
