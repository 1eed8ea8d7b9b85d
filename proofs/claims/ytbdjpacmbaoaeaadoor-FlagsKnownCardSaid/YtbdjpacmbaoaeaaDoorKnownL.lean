/- The walk of FlagsKnown. -/
import Derived.Test.YtbdjpacmbaoaeaaDoorKnM
import Derived.Test.YtbdjpacmbaoaeaaDoorRankL
namespace Go.Proofs.YtbdjpacmbaoaeaaDoor
open Go.RowKit S

set_option maxRecDepth 100000 in
set_option maxHeartbeats 4000000 in
theorem knownLaw_any (w : World) (hT : Tab w) (h0 : 0 < w.heap.size) : Calls Tryd.prog 8 #[] w fun e w' => e = .returned (.bool true) ∧ Below w.heap.size w w' := by
  have HT := Lib.hid hT
  clear hT
  obtain ⟨L, M, N, P, ⟨hL, hLl, hLs, hLn, hLr, hLf, hLm⟩, ⟨hMl, hMc⟩, ⟨hNl, hNc, hN0, hNi⟩, hPl, hPc⟩ := known_ex
  obtain ⟨A, hA, hAl⟩ : ∃ A : List Bool, List.replicate 4096 false = A ∧ A.length = 4096 := ⟨_, rfl, List.length_replicate⟩
  obtain ⟨B, hB, hBl⟩ : ∃ B : List Bool, A.set 4095 true = B ∧ B.length = 4096 := ⟨_, rfl, by rw [List.length_set]; exact hAl⟩
  rw [hA, hB] at hL
  have KN := Lib.hid (new_ok 4096 (by decide) w)
  rw [hA] at KN
  have XL := Lib.hid hL
  have XB := Lib.hid hB
  have XM := Lib.hid hLm
  have XN := Lib.hid hMc
  have XP := Lib.hid hNi
  have XS := Lib.hid hLs
  have XR := Lib.hid hLr
  have XF := Lib.hid hLf
  have XT := Lib.hid hLn
  have X0 := Lib.hid hN0
  have Y1 := Lib.hid hAl
  have Y2 := Lib.hid hBl
  have Y3 := Lib.hid hLl
  have Y4 := Lib.hid hMl
  have Y5 := Lib.hid hNl
  have Y6 := Lib.hid hPl
  have Z1 := Lib.hid hNc
  have Z2 := Lib.hid hPc
  clear hL hB hLm hMc hNi hLs hLr hLf hLn hN0 hAl hBl hLl hMl hNl hPl hNc hPc hA
  go_enter Tryd.func8, Tryd.ntmps8
  go_wp2_with fail
  refine KN.out.mono ?_
  rintro e w1 ⟨b, rfl, hn⟩
  have HN := Lib.hid hn
  clear hn KN
  have K : Hid (∀ k, Calls Tryd.prog 19 #[.pointer (some ⟨b, 0, none⟩), .int .i64 4095, .bool true] (w1.drewN k) (Ch (w1.drewN k) b B)) := Lib.hid fun k => by
    have := set_in (HN.out.drewN k).1 4095 true (by rw [Y1.out]; decide)
    rw [XB.out] at this
    exact this
  go_wp2_with fail
  refine (K.out 0).mono ?_
  intro e w2 hc
  have HN2 := Lib.hid (Nw.ch (HN.out.drewN 0) hc)
  obtain ⟨rfl, -⟩ := hc
  clear K HN
  have K : Hid (∀ k, Calls Tryd.prog 19 #[.pointer (some ⟨b, 0, none⟩), .int .i64 64, .bool true] (w2.drewN k) (Ch (w2.drewN k) b L)) := Lib.hid fun k => by
    have := set_in (HN2.out.drewN k).1 64 true (by rw [Y2.out]; decide)
    rw [XL.out] at this
    exact this
  go_wp2_with fail
  refine (K.out 0).mono ?_
  intro e w3 hc
  have HN3 := Lib.hid (Nw.ch (HN2.out.drewN 0) hc)
  obtain ⟨rfl, -⟩ := hc
  clear K HN2
  have K1 : Hid (∀ k, Calls Tryd.prog 22 #[.pointer (some ⟨b, 0, none⟩), .int .i64 0, .int .i64 1, .bool true] (w3.drewN k) fun e w' => e = .returned (.int .i64 3) ∧ w3.drewN k = w') := Lib.hid fun k => ins_limit (HN3.out.drewN k).1 0 1 true (by omega) (by rw [Y3.out]; decide) (by decide)
  have K2 : Hid (∀ k, Calls Tryd.prog 22 #[.pointer (some ⟨b, 0, none⟩), .int .i64 0, .int .i64 0, .bool true] (w3.drewN k) (Ch (w3.drewN k) b L)) := Lib.hid fun k => by
    have := ins_in (HN3.out.drewN k).1 0 0 true (by omega) (by rw [Y3.out]; decide)
    rw [List.take_zero, List.replicate_zero, List.nil_append, List.nil_append, List.drop_zero] at this
    exact this
  go_wp2_with fail
  refine (K1.out 0).mono ?_
  rintro e w' ⟨rfl, rfl⟩
  go_wp2_with fail
  refine (K2.out 0).mono ?_
  intro e w4 hc
  have HN4 := Lib.hid (Nw.ch (HN3.out.drewN _) hc)
  obtain ⟨rfl, -⟩ := hc
  clear K1 K2 HN3
  have K1 : Hid (∀ k, Calls Tryd.prog 22 #[.pointer (some ⟨b, 0, none⟩), .int .i64 4097, .int .i64 1, .bool true] (w4.drewN k) fun e w' => e = .returned (.int .i64 4) ∧ w4.drewN k = w') := Lib.hid fun k => ins_out (HN4.out.drewN k).1 4097 1 true (by decide) (.inr (by rw [Y3.out]; decide))
  have K2 : Hid (∀ k, Calls Tryd.prog 22 #[.pointer (some ⟨b, 0, none⟩), .int .i64 0, .int .i64 9223372036854775807, .bool true] (w4.drewN k) fun e w' => e = .returned (.int .i64 3) ∧ w4.drewN k = w') := Lib.hid fun k => ins_limit (HN4.out.drewN k).1 0 9223372036854775807 true (by omega) (by rw [Y3.out]; decide) (by decide)
  have K3 : Hid (∀ k, Calls Tryd.prog 14 #[.pointer (some ⟨b, 0, none⟩), .int .i64 1] (w4.drewN k) fun e w' => e = .returned (.tuple #[.int .i64 4095, .int .i64 0]) ∧ ∃ m, w' = (w4.drewN k).drewN m) := Lib.hid fun k => by
    have := sel_any (HN4.out.drewN k).1 ((HN4.out.drewN k).tab HT.out h0) 1 (by decide)
    rw [XS.out] at this
    exact this
  have K4 : Hid (∀ k, Calls Tryd.prog 16 #[.pointer (some ⟨b, 0, none⟩), .int .i64 65, .bool true] (w4.drewN k) fun e w' => e = .returned (.tuple #[.int .i64 4095, .int .i64 0]) ∧ w4.drewN k = w') := Lib.hid fun k => next_is (HN4.out.drewN k).1 ((HN4.out.drewN k).tab HT.out h0) 65 (by rw [Y3.out]; decide) true (some 4095) XT.out
  have K5 : Hid (∀ k, Calls Tryd.prog 12 #[.pointer (some ⟨b, 0, none⟩), .int .i64 4095] (w4.drewN k) fun e w' => e = .returned (.tuple #[.int .i64 1, .int .i64 0]) ∧ ∃ m, w' = (w4.drewN k).drewN m) := Lib.hid fun k => by
    have := rank_in (HN4.out.drewN k).1 4095 (by rw [Y3.out]; decide)
    rw [XR.out] at this
    exact this
  have K6 : Hid (∀ k, Calls Tryd.prog 16 #[.pointer (some ⟨b, 0, none⟩), .int .i64 4095, .bool false] (w4.drewN k) fun e w' => e = .returned (.tuple #[.int .i64 0, .int .i64 11]) ∧ w4.drewN k = w') := Lib.hid fun k => next_is (HN4.out.drewN k).1 ((HN4.out.drewN k).tab HT.out h0) 4095 (by rw [Y3.out]; decide) false none XF.out
  have K7 : Hid (∀ k, Calls Tryd.prog 26 #[.pointer (some ⟨b, 0, none⟩), .int .i64 4095, .int .i64 1, .int .i64 0] (w4.drewN k) (Ch (w4.drewN k) b M)) := Lib.hid fun k => by
    have := mv_in (HN4.out.drewN k).1 4095 1 0 (by rw [Y3.out]; decide) (by rw [Y3.out]; decide)
    rw [XM.out] at this
    exact this
  go_wp2_with fail
  refine (K1.out 0).mono ?_
  rintro e w' ⟨rfl, rfl⟩
  go_wp2_with fail
  refine (K2.out 0).mono ?_
  rintro e w' ⟨rfl, rfl⟩
  go_wp2_with fail
  refine (K3.out 0).mono ?_
  rintro e w' ⟨rfl, m1, rfl⟩
  go_wp2_with fail
  refine (K4.out _).mono ?_
  rintro e w' ⟨rfl, rfl⟩
  go_wp2_with fail
  refine (K5.out _).mono ?_
  rintro e w' ⟨rfl, m2, rfl⟩
  go_wp2_with fail
  refine (K6.out _).mono ?_
  rintro e w' ⟨rfl, rfl⟩
  go_wp2_with fail
  refine (K7.out _).mono ?_
  intro e w5 hc
  have HN5 := Lib.hid (Nw.ch (HN4.out.drewN _) hc)
  obtain ⟨rfl, -⟩ := hc
  clear K1 K2 K3 K4 K5 K6 K7 HN4
  have K : Hid (∀ k, Calls Tryd.prog 24 #[.pointer (some ⟨b, 0, none⟩), .int .i64 1, .int .i64 4000] (w5.drewN k) (Ch (w5.drewN k) b N)) := Lib.hid fun k => by
    have := rem_in (HN5.out.drewN k).1 1 4000 (by rw [Y4.out]; decide)
    rw [XN.out] at this
    exact this
  go_wp2_with fail
  refine (K.out 0).mono ?_
  intro e w6 hc
  have HN6 := Lib.hid (Nw.ch (HN5.out.drewN _) hc)
  obtain ⟨rfl, -⟩ := hc
  clear K HN5
  have K1 : Hid (∀ k, Calls Tryd.prog 31 #[.pointer (some ⟨b, 0, none⟩)] (w6.drewN k) fun e w' => e = .returned (.int .i64 96) ∧ w6.drewN k = w') := Lib.hid fun k => by
    have := len_any (HN6.out.drewN k).1
    rw [Y5.out] at this
    exact this
  have K2 : Hid (∀ k, Calls Tryd.prog 15 #[.pointer (some ⟨b, 0, none⟩)] (w6.drewN k) fun e w' => e = .returned (.int .i64 1) ∧ ∃ m, w' = (w6.drewN k).drewN m) := Lib.hid fun k => by
    have := count_any (HN6.out.drewN k).1
    rw [Z1.out] at this
    exact this
  have K3 : Hid (∀ k, Calls Tryd.prog 24 #[.pointer (some ⟨b, 0, none⟩), .int .i64 0, .int .i64 9223372036854775807] (w6.drewN k) fun e w' => e = .returned (.int .i64 4) ∧ w6.drewN k = w') := Lib.hid fun k => rem_out (HN6.out.drewN k).1 0 9223372036854775807 (by decide) (.inr (.inr (by rw [Y5.out]; decide)))
  have K4 : Hid (∀ k, Calls Tryd.prog 18 #[.pointer (some ⟨b, 0, none⟩), .int .i64 0] (w6.drewN k) fun e w' => e = .returned (.tuple #[.bool true, .int .i64 0]) ∧ w6.drewN k = w') := Lib.hid fun k => by
    have hl : 0 < N.length := by rw [Y5.out]; decide
    have := get_in (HN6.out.drewN k).1 0 hl
    have e : N[0] = true := by
      have := X0.out
      rw [List.getElem?_eq_getElem hl] at this
      exact Option.some.inj this
    rw [e] at this
    exact this
  have K5 : Hid (∀ k, Calls Tryd.prog 22 #[.pointer (some ⟨b, 0, none⟩), .int .i64 96, .int .i64 4000, .bool true] (w6.drewN k) (Ch (w6.drewN k) b P)) := Lib.hid fun k => by
    have := ins_in (HN6.out.drewN k).1 96 4000 true (by rw [Y5.out]; decide) (by rw [Y5.out]; decide)
    rw [XP.out] at this
    exact this
  go_wp2_with fail
  refine (K1.out 0).mono ?_
  rintro e w' ⟨rfl, rfl⟩
  go_wp2_with fail
  refine (K2.out 0).mono ?_
  rintro e w' ⟨rfl, m3, rfl⟩
  go_wp2_with fail
  refine (K3.out _).mono ?_
  rintro e w' ⟨rfl, rfl⟩
  go_wp2_with fail
  refine (K4.out _).mono ?_
  rintro e w' ⟨rfl, rfl⟩
  go_wp2_with fail
  refine (K5.out _).mono ?_
  intro e w7 hc
  have HN7 := Lib.hid (Nw.ch (HN6.out.drewN _) hc)
  obtain ⟨rfl, -⟩ := hc
  clear K1 K2 K3 K4 K5 HN6
  have K1 : Hid (∀ k, Calls Tryd.prog 31 #[.pointer (some ⟨b, 0, none⟩)] (w7.drewN k) fun e w' => e = .returned (.int .i64 4096) ∧ w7.drewN k = w') := Lib.hid fun k => by
    have := len_any (HN7.out.drewN k).1
    rw [Y6.out] at this
    exact this
  have K2 : Hid (∀ k, Calls Tryd.prog 15 #[.pointer (some ⟨b, 0, none⟩)] (w7.drewN k) fun e w' => e = .returned (.int .i64 4001) ∧ ∃ m, w' = (w7.drewN k).drewN m) := Lib.hid fun k => by
    have := count_any (HN7.out.drewN k).1
    rw [Z2.out] at this
    exact this
  have KL := lives_nw HN7.out HT.out h0
  go_wp2_with fail
  refine (K2.out 0).mono ?_
  rintro e w' ⟨rfl, m4, rfl⟩
  go_wp2_with fail
  refine (K1.out _).mono ?_
  rintro e w' ⟨rfl, rfl⟩
  go_wp2_with fail
  refine (KL.out _).mono ?_
  rintro e w' ⟨rfl, hb⟩
  have HB := Lib.hid hb
  clear hb
  go_wp2_with fail
  go_ret
  exact ⟨rfl, HB.out⟩
end Go.Proofs.YtbdjpacmbaoaeaaDoor
