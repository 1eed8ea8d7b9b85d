/- The law RisesErrors. -/
import Derived.Test.YtejgcpohdbiaoaaLivW
import Derived.Test.YtejgcpohdbiaoaaRefM
import Derived.Test.YtejgcpohdbiaoaaRefP
namespace Go.Proofs.Ytejgcpohdbiaoaa
open Go.RowKit

/-- what the law has in memory: the arguments, what was kept, the moves, what was carried -/
structure L7 (w W : World) (A B A1 A2 A3 : Option Addr) (c d : Nat) (old now k : List Int) (s : List (Int × Int)) (v : List Int) : Prop where
  a : SlI W A c old
  b : SlI W B d now
  k : SlI W A1 k.length k
  s : SlP W A2 s.length s
  v : SlI W A3 v.length v
  u : Below w.heap.size w W
theorem L7.next {w W W' : World} {A B A1 A2 A3 : Option Addr} {c d : Nat} {old now k : List Int} {s : List (Int × Int)} {v : List Int} (h : L7 w W A B A1 A2 A3 c d old now k s v) (hb : Below W.heap.size W W') : L7 w W' A B A1 A2 A3 c d old now k s v :=
  ⟨h.a.next hb, h.b.next hb, h.k.next hb, h.s.next hb, h.v.next hb, h.u.trans (hb.mono h.u.size)⟩
theorem kept_two {old now : List Int} {q : Int} (h : pairE old now = q) : ∃ k, keptR old now = (k, q) ∧ (q = 0 → keptL old now = k) ∧ (q ≠ 0 → k = []) := by
  unfold keptR
  rw [h]
  split
  · rename_i h2; subst h2; exact ⟨_, rfl, fun _ => rfl, fun h => absurd rfl h⟩
  · rename_i h2; exact ⟨_, rfl, fun h => absurd h h2, fun _ => rfl⟩
theorem moves_two {old now : List Int} {q : Int} (h : pairE old now = q) : ∃ s, movesR old now = (s, q) ∧ (q = 0 → movesL old now = s) ∧ (q ≠ 0 → s = []) := by
  unfold movesR
  rw [h]
  split
  · rename_i h2; subst h2; exact ⟨_, rfl, fun _ => rfl, fun h => absurd rfl h⟩
  · rename_i h2; exact ⟨_, rfl, fun h => absurd h h2, fun _ => rfl⟩
theorem carry_two {old : List Int} {f : Int} (h : chk old = f) : ∃ v, carryR old [] = (v, f) ∧ (f ≠ 0 → v = []) := by
  unfold carryR
  rw [h]
  split
  · rename_i h2; subst h2; exact ⟨_, rfl, fun h => absurd rfl h⟩
  · exact ⟨_, rfl, fun _ => rfl⟩
theorem pair_first {old now : List Int} (h : chk old ≠ 0) : pairE old now ≠ 0 := fun h2 => h (chk_zero.2 (pairE_zero.1 h2).1)
set_option maxRecDepth 100000 in
set_option maxHeartbeats 4000000 in
theorem law7_any {w : World} {A B : Option Addr} {c d : Nat} {old now : List Int} (ha : SlI w A c old) (hb : SlI w B d now) (hRa : Rng old) (hRb : Rng now) : Calls Try.prog 7 #[.slice A old.length c, .slice B now.length d] w (YesB w) := by
  have hle := ha.le
  have hmx := ha.max
  have hle2 := hb.le
  have hmx2 := hb.max
  by_cases h0 : 30 < old.length
  · have hl2 : (30 : Int) < (old.length : Int) := by omega
    clear ha hb
    go_enter Try.func7, Try.ntmps7
    go_wp2_with fail
    refine (lives_any w).mono ?_
    rintro e w1 ⟨rfl, hb⟩
    have HB := Lib.hid hb
    clear hb
    go_wp2_with fail
    go_ret
    exact ⟨rfl, HB.out⟩
  by_cases h1 : 30 < now.length
  · have hl2 : (30 : Int) < (now.length : Int) := by omega
    have hl3 : (old.length : Int) ≤ 30 := by omega
    clear ha hb
    go_enter Try.func7, Try.ntmps7
    go_wp2_with fail
    refine (lives_any w).mono ?_
    rintro e w1 ⟨rfl, hb⟩
    have HB := Lib.hid hb
    clear hb
    go_wp2_with fail
    go_ret
    exact ⟨rfl, HB.out⟩
  have hl2 : (old.length : Int) ≤ 30 := by omega
  have hl3 : (now.length : Int) ≤ 30 := by omega
  have hl4 : now.length ≤ 4096 := by omega
  obtain ⟨q, hq⟩ : ∃ q, pairE old now = q := ⟨_, rfl⟩
  obtain ⟨f, hf⟩ : ∃ f, chk old = f := ⟨_, rfl⟩
  obtain ⟨k, hk, hk0, hk1⟩ := kept_two hq
  obtain ⟨s, hs, hs0, hs1⟩ := moves_two hq
  obtain ⟨v, hv, hv1⟩ := carry_two hf
  have hfq : f ≠ 0 → q ≠ 0 := fun h => by rw [← hq]; exact pair_first (by rw [hf]; exact h)
  have HOn : Hid (q = 0 → Ord now) := Lib.hid fun h => (pairE_zero.1 (hq.trans h)).2.1
  have HP := pair_any c d ha.rd hb.rd ha.len hb.len
  rw [hq] at HP
  have HP := Lib.hid HP
  have HF := Lib.hid hf
  have HK := Lib.hid hk
  have HS := Lib.hid hs
  have HV := Lib.hid hv
  have HK0 := Lib.hid (show _ ∧ _ ∧ _ ∧ _ from ⟨hk0, hk1, hs0, hs1⟩)
  have HV1 := Lib.hid (show _ ∧ _ from ⟨hv1, hfq⟩)
  have HR := Lib.hid (show _ ∧ _ from ⟨hRa, hRb⟩)
  have H := Lib.hid (show L7 w w A B none none none c d old now [] [] [] from ⟨ha, hb, SlI.none _, SlP.none _, SlI.none _, Below.refl _ _⟩)
  clear ha hb hq hf hk hk0 hk1 hs hs0 hs1 hv hv1 hfq hRa hRb h0 h1
  go_enter Try.func7, Try.ntmps7
  go_wp2_with fail
  refine HP.out.mono ?_
  rintro e w1 ⟨rfl, m, rfl⟩
  replace H := Lib.hid (H.out.next (below_drewN w m))
  clear HP
  generalize w.drewN m = w1 at *
  go_wp2_with fail
  have HC := kept_any H.out.a H.out.b HR.out.1 HR.out.2
  rw [HK.out] at HC
  refine HC.mono ?_
  clear HC HK
  rintro e w2 ⟨A1, rfl, hs, hu⟩
  have M := H.out.next hu
  replace H := Lib.hid (show L7 w w2 A B A1 none none c d old now k [] [] from ⟨M.a, M.b, hs, M.s, M.v, M.u⟩)
  clear M hs hu
  go_wp2_with fail
  have HC := moves_any H.out.a H.out.b HR.out.1 HR.out.2
  rw [HS.out] at HC
  refine HC.mono ?_
  clear HC HS
  rintro e w3 ⟨A2, rfl, hs, hu⟩
  have M := H.out.next hu
  replace H := Lib.hid (show L7 w w3 A B A1 A2 none c d old now k s [] from ⟨M.a, M.b, M.k, hs, M.v, M.u⟩)
  clear M hs hu
  go_wp2_with fail
  have HC := carry_any H.out.a (SlP.none w3) HR.out.1 (fun x hx => by cases hx)
  rw [HV.out] at HC
  refine HC.mono ?_
  clear HC HV
  rintro e w4 ⟨A3, rfl, hs, hu⟩
  have M := H.out.next hu
  replace H := Lib.hid (show L7 w w4 A B A1 A2 A3 c d old now k s v from ⟨M.a, M.b, M.k, M.s, hs, M.u⟩)
  clear M hs hu
  go_wp2_with fail
  have HC := refCheck_any c H.out.a.rd H.out.a.len
  rw [HF.out] at HC
  refine HC.mono ?_
  clear HC
  rintro e w5 ⟨rfl, m2, rfl⟩
  replace H := Lib.hid (H.out.next (below_drewN w4 m2))
  generalize w4.drewN m2 = w5 at *
  go_wp2_with fail
  have HC := check_any H.out.a HR.out.1
  rw [HF.out] at HC
  refine HC.mono ?_
  clear HC
  rintro e w6 ⟨rfl, hu⟩
  replace H := Lib.hid (H.out.next hu)
  clear hu
  have hkl := H.out.k.max
  have hsl := H.out.s.max
  have hvl := H.out.v.max
  by_cases hf0 : f = 0
  · subst hf0
    by_cases hq0 : q = 0
    · subst hq0
      have e1 := HK0.out.1 rfl
      have e2 := HK0.out.2.2.1 rfl
      have ho := HOn.out rfl
      clear HK0 HV1
      have HE1 := Lib.hid e1
      have HE2 := Lib.hid e2
      have HO := Lib.hid ho
      clear e1 e2 ho HOn
      go_wp2_with fail
      have HC := refKept_any H.out.a H.out.b hl4
      rw [HE1.out] at HC
      refine HC.mono ?_
      clear HC
      rintro e w7 ⟨A4, c4, rfl, hs, hu⟩
      replace H := Lib.hid (H.out.next hu)
      have HS4 := Lib.hid (same_any (f := 0) c4 H.out.k.rd hs.rd hs.len)
      have hc4 := hs.le
      have hm4 := hs.max
      clear hs hu
      go_wp2_with fail
      refine HS4.out.mono ?_
      rintro e w8 ⟨rfl, m3, rfl⟩
      replace H := Lib.hid (H.out.next (below_drewN w7 m3))
      clear HS4
      generalize w7.drewN m3 = w8 at *
      go_wp2_with fail
      have HC := refMoves_any H.out.a H.out.b HO.out
      rw [HE2.out] at HC
      refine HC.mono ?_
      clear HC
      rintro e w9 ⟨A5, c5, rfl, hs, hu⟩
      replace H := Lib.hid (H.out.next hu)
      have HS4 := Lib.hid (steps_any (f := 0) c5 H.out.s.rd hs.rd hs.len)
      have hc5 := hs.le
      have hm5 := hs.max
      clear hs hu
      go_wp2_with fail
      refine HS4.out.mono ?_
      rintro e w10 ⟨rfl, m4, rfl⟩
      have HU := Lib.hid (H.out.next (below_drewN w9 m4)).u
      clear HS4 H
      generalize w9.drewN m4 = w10 at *
      go_wp2_with fail
      refine (lives_any w10).mono ?_
      rintro e w11 ⟨rfl, hb⟩
      have HB := Lib.hid (HU.out.trans (hb.mono HU.out.size))
      clear hb
      go_wp2_with fail
      go_ret
      exact ⟨rfl, HB.out⟩
    · have e1 := HK0.out.2.1 hq0
      have e2 := HK0.out.2.2.2 hq0
      subst e1; subst e2
      have HU := Lib.hid H.out.u
      clear HK0 HV1 H
      simp only [List.length_nil]
      go_wp2_with fail
      refine (lives_any w6).mono ?_
      rintro e w7 ⟨rfl, hb⟩
      have HB := Lib.hid (HU.out.trans (hb.mono HU.out.size))
      clear hb
      go_wp2_with fail
      go_ret
      exact ⟨rfl, HB.out⟩
  · have hq0 := HV1.out.2 hf0
    have e1 := HK0.out.2.1 hq0
    have e2 := HK0.out.2.2.2 hq0
    have e3 := HV1.out.1 hf0
    subst e1; subst e2; subst e3
    have HU := Lib.hid H.out.u
    clear HK0 HV1 H
    simp only [List.length_nil]
    go_wp2_with fail
    refine (lives_any w6).mono ?_
    rintro e w7 ⟨rfl, hb⟩
    have HB := Lib.hid (HU.out.trans (hb.mono HU.out.size))
    clear hb
    go_wp2_with fail
    go_ret
    exact ⟨rfl, HB.out⟩
end Go.Proofs.Ytejgcpohdbiaoaa
