/- The law RisesMoves. -/
import Derived.Test.YtejgcpohdbiaoaaLwE
import Derived.Test.YtejgcpohdbiaoaaOfW
namespace Go.Proofs.Ytejgcpohdbiaoaa
open Go.RowKit

theorem numL_ord (N F : Nat) : Ord (numL N F) := by
  refine ⟨by rw [numL_len]; omega, fun x hx => ?_, ?_⟩
  · obtain ⟨k, _, rfl⟩ := List.mem_map.1 hx
    omega
  · unfold numL numB
    rw [List.nodup_iff_pairwise_ne, List.pairwise_map]
    refine List.pairwise_lt_range.imp fun h => ?_
    omega
theorem numL_rng {N F : Nat} (hF : F ≤ 255) : Rng (numL N F) := fun x hx => by
  obtain ⟨k, hk, rfl⟩ := List.mem_map.1 hx
  have := List.mem_range.1 hk
  unfold I64
  omega
theorem Rng.perm {l m : List Int} (h : Rng l) (hp : m.Perm l) : Rng m := fun x hx => h x (hp.mem_iff.1 hx)
theorem i64_getD {l : List Int} (h : Rng l) (i : Nat) (d : Int) (hd : I64 d) : I64 (l.getD i d) := by
  rw [List.getD_eq_getElem?_getD]
  rcases Nat.lt_or_ge i l.length with hi | hi
  · rw [List.getElem?_eq_getElem hi]; exact h.get hi
  · rw [List.getElem?_eq_none hi]; exact hd
theorem mvJ_rng {now : List Int} (h : Rng now) (K : List Nat) (j : Nat) : RngP (mvJ now K j) := by
  induction j with
  | zero => intro x hx; cases hx
  | succ j ih =>
    intro x hx
    simp only [mvJ, List.mem_append] at hx
    rcases hx with hx | hx
    · exact ih x hx
    · split at hx
      · cases hx
      · simp only [List.mem_singleton] at hx
        subst hx
        exact ⟨i64_getD h _ _ (by unfold I64; omega), i64_getD h _ _ (by unfold I64; omega)⟩
theorem pos_five {w W : World} {A1 A2 : Option Addr} {c1 c2 : Nat} {old now : List Int} (h1 : SlI W A1 c1 old) (h2 : SlI W A2 c2 now) (hu : Below w.heap.size w W) : L7 w W A1 A2 none none none c1 c2 old now [] [] [] :=
  ⟨h1, h2, SlI.none _, SlP.none _, SlI.none _, hu⟩
set_option maxRecDepth 100000 in
set_option maxHeartbeats 4000000 in
theorem law5_any {w : World} {A B : Option Addr} (c d : Nat) {us vs : List Nat} (N F : Nat) (hu : RdU w w.heap.size A us) (hv : RdU w w.heap.size B vs) (hN : N ≤ 255) (hF : F ≤ 255) (hlu : us.length ≤ 9223372036854775807) (hlv : vs.length ≤ 9223372036854775807) :
    Calls Try.prog 5 #[.agg #[.int .u8 N, .int .u8 F, .slice A us.length c, .slice B vs.length d]] w (YesB w) := by
  obtain ⟨g, hg⟩ : ∃ g : Nat, w.heap.size = g := ⟨_, rfl⟩
  obtain ⟨V, hV⟩ : ∃ V : World, w.alloc (.cells #[.int .u8 N, .int .u8 F, .slice A us.length c, .slice B vs.length d] 34) = V := ⟨_, rfl⟩
  have hbox : V.heap[g]? = some (.cells #[.int .u8 N, .int .u8 F, .slice A us.length c, .slice B vs.length d] 34 (0, 0)) := by rw [← hV]; exact new_at _ hg
  have hbv : Below w.heap.size w V := by rw [← hV]; exact below_new _ _
  have HO : Hid (Calls Try.prog 13 #[.agg #[.int .u8 N, .int .u8 F, .slice A us.length c, .slice B vs.length d]] V (Both N F V)) := Lib.hid (of_any c d N F (fun k hk => by
    obtain ⟨b, o, e, hb, r⟩ := (hu.below hbv) k hk
    exact ⟨b, o, e, Nat.lt_of_lt_of_le hb hbv.size, r⟩) (fun k hk => by
    obtain ⟨b, o, e, hb, r⟩ := (hv.below hbv) k hk
    exact ⟨b, o, e, Nat.lt_of_lt_of_le hb hbv.size, r⟩) hN hF hlu hlv)
  have HB := Lib.hid hbv
  have v0 : V.cell? ⟨g, 0, none⟩ = some (.int .u8 N) := cell_of_row _ _ 0 _ 34 (0, 0) hbox
  have v1 : V.cell? ⟨g, 1, none⟩ = some (.int .u8 F) := cell_of_row _ _ 1 _ 34 (0, 0) hbox
  have v2 : V.cell? ⟨g, 2, none⟩ = some (.slice A us.length c) := cell_of_row _ _ 2 _ 34 (0, 0) hbox
  have v3 : V.cell? ⟨g, 3, none⟩ = some (.slice B vs.length d) := cell_of_row _ _ 3 _ 34 (0, 0) hbox
  have HF := Lib.hid hF
  clear hu hv hlu hlv hN hF hbox hbv
  go_enter Try.func5, Try.ntmps5
  go_wp2_with fail
  refine HO.out.mono ?_
  rintro e w1 ⟨old, now, A1, A2, c1, c2, hp1, hp2, rfl, hs1, hs2, hu⟩
  have H := Lib.hid (pos_five hs1 hs2 (HB.out.trans (hu.mono HB.out.size)))
  have ho := (numL_ord N F).perm hp1
  have hn := (numL_ord N F).perm hp2
  have hr1 := (numL_rng (N := N) HF.out).perm hp1
  have hr2 := (numL_rng (N := N) HF.out).perm hp2
  have hpp := hp2.trans hp1.symm
  have hlo : old.length ≤ 40 := by rw [hp1.length_eq, numL_len]; omega
  have hln : now.length = old.length := hpp.length_eq
  have hll := hs1.le
  have hml := hs1.max
  have hll2 := hs2.le
  have hml2 := hs2.max
  clear hs1 hs2 hu HO v0 v1 v2 v3 hp1 hp2 hV hg
  have hpz : pairE old now = 0 := pairE_zero.2 ⟨ho, hn, hpp⟩
  have hpn : pairE now now = 0 := pairE_zero.2 ⟨hn, hn, List.Perm.refl _⟩
  obtain ⟨k, hk⟩ : ∃ k, keptL old now = k := ⟨_, rfl⟩
  obtain ⟨s, hs⟩ : ∃ s, movesL old now = s := ⟨_, rfl⟩
  have hkR : keptR old now = (k, 0) := by unfold keptR; rw [if_pos hpz, hk]
  have hsR : movesR old now = (s, 0) := by unfold movesR; rw [if_pos hpz, hs]
  have hnR : movesR now now = ([], 0) := by unfold movesR; rw [if_pos hpn, moves_self hn]
  have hsum : k.length + s.length = old.length := by
    have h1 := moves_len old now
    have h2 : (keptL old now).length = (keptP old now).length := by unfold keptL; rw [List.length_map]
    rw [hs] at h1
    rw [hk] at h2
    omega
  have hcR : carryR old s = (now, 0) := by
    unfold carryR
    rw [if_pos (chk_zero.2 ho), if_neg (by omega), ← hs]
    exact moves_carry ho hn hpp
  have hsr : RngP s := by rw [← hs]; exact mvJ_rng hr2 _ _
  have HK := Lib.hid hkR
  have HS := Lib.hid hsR
  have HN := Lib.hid hnR
  have HC := Lib.hid hcR
  have HR := Lib.hid (show _ ∧ _ ∧ _ ∧ _ from ⟨hr1, hr2, hsr, hn⟩)
  have HE := Lib.hid (show _ ∧ _ from ⟨hk, hs⟩)
  have hl4 : now.length ≤ 4096 := by omega
  have hks : (k.length : Int) + (s.length : Int) = (old.length : Int) := by omega
  have HW := Lib.hid hks
  clear ho hn hr1 hr2 hpp hpz hpn hk hs hkR hsR hnR hsum hcR hsr hks hln
  go_wp2_with fail
  have HX := kept_any H.out.a H.out.b HR.out.1 HR.out.2.1
  rw [HK.out] at HX
  refine HX.mono ?_
  clear HX
  rintro e w2 ⟨A3, rfl, hs, hu⟩
  have M := H.out.next hu
  replace H := Lib.hid (show L7 w w2 A1 A2 A3 none none c1 c2 old now k [] [] from ⟨M.a, M.b, hs, M.s, M.v, M.u⟩)
  clear M hs hu
  go_wp2_with fail
  have HX := moves_any H.out.a H.out.b HR.out.1 HR.out.2.1
  rw [HS.out] at HX
  refine HX.mono ?_
  clear HX
  rintro e w3 ⟨A4, rfl, hs, hu⟩
  have M := H.out.next hu
  replace H := Lib.hid (show L7 w w3 A1 A2 A3 A4 none c1 c2 old now k s [] from ⟨M.a, M.b, M.k, hs, M.v, M.u⟩)
  clear M hs hu
  have hkl := H.out.k.max
  have hsl := H.out.s.max
  go_wp2_with fail
  have HX := refKept_any H.out.a H.out.b hl4
  rw [HE.out.1] at HX
  refine HX.mono ?_
  clear HX
  rintro e w4 ⟨A5, c5, rfl, hs, hu⟩
  replace H := Lib.hid (H.out.next hu)
  have HS4 := Lib.hid (same_any (f := 0) c5 H.out.k.rd hs.rd hs.len)
  have hc5 := hs.le
  have hm5 := hs.max
  clear hs hu
  go_wp2_with fail
  refine HS4.out.mono ?_
  rintro e w5 ⟨rfl, m3, rfl⟩
  replace H := Lib.hid (H.out.next (below_drewN w4 m3))
  clear HS4
  generalize w4.drewN m3 = w5 at *
  go_wp2_with fail
  have HX := refMoves_any H.out.a H.out.b HR.out.2.2.2
  rw [HE.out.2] at HX
  refine HX.mono ?_
  clear HX
  rintro e w6 ⟨A6, c6, rfl, hs, hu⟩
  replace H := Lib.hid (H.out.next hu)
  have HS4 := Lib.hid (steps_any (f := 0) c6 H.out.s.rd hs.rd hs.len)
  have hc6 := hs.le
  have hm6 := hs.max
  clear hs hu
  go_wp2_with fail
  refine HS4.out.mono ?_
  rintro e w7 ⟨rfl, m4, rfl⟩
  replace H := Lib.hid (H.out.next (below_drewN w6 m4))
  clear HS4
  generalize w6.drewN m4 = w7 at *
  have hks := HW.out
  go_wp2_with fail
  clear hks
  have HX := carry_any H.out.a H.out.s HR.out.1 HR.out.2.2.1
  rw [HC.out] at HX
  refine HX.mono ?_
  clear HX
  rintro e w8 ⟨A7, rfl, hs, hu⟩
  have M := H.out.next hu
  replace H := Lib.hid (show L7 w w8 A1 A2 A3 A4 A7 c1 c2 old now k s now from ⟨M.a, M.b, M.k, M.s, hs, M.u⟩)
  clear M hs hu
  go_wp2_with fail
  have HX := moves_any H.out.b H.out.b HR.out.2.1 HR.out.2.1
  rw [HN.out] at HX
  refine HX.mono ?_
  clear HX
  rintro e w9 ⟨A8, rfl, hs, hu⟩
  replace H := Lib.hid (H.out.next hu)
  have HT := Lib.hid hs
  have HS4 := Lib.hid (same_any (f := 0) c2 H.out.v.rd H.out.b.rd H.out.b.len)
  clear hs hu
  simp only [List.length_nil]
  go_wp2_with fail
  refine HS4.out.mono ?_
  rintro e w10 ⟨rfl, m5, rfl⟩
  replace H := Lib.hid (H.out.next (below_drewN w9 m5))
  clear HS4 HT
  generalize w9.drewN m5 = w10 at *
  go_wp2_with fail
  refine (steps_any (zs := []) (f := 0) 0 RdP.nil RdP.nil (by simp)).mono ?_
  rintro e w11 ⟨rfl, m6, rfl⟩
  have HU := Lib.hid (H.out.next (below_drewN w10 m6)).u
  clear H
  generalize w10.drewN m6 = w11 at *
  go_wp2_with fail
  refine (lives_any w11).mono ?_
  rintro e w12 ⟨rfl, hb⟩
  have HB := Lib.hid (HU.out.trans (hb.mono HU.out.size))
  clear hb
  go_wp2_with fail
  go_ret
  exact ⟨rfl, HB.out⟩
end Go.Proofs.Ytejgcpohdbiaoaa
