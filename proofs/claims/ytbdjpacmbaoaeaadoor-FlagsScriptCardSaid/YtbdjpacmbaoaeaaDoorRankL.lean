/- The walk of FlagsRank. -/
import Derived.Test.YtbdjpacmbaoaeaaDoorLives
namespace Go.Proofs.YtbdjpacmbaoaeaaDoor
open Go.RowKit S

/-- the place of the flag with rank r at j -/
theorem sel_at {l : List Bool} {j : Nat} (h : j < l.length) (hv : l[j] = true) : cnt (l.take j) < cnt l ∧ sel (cnt (l.take j)) l = j := by
  have h1 : cnt (l.take (j + 1)) = cnt (l.take j) + 1 := by rw [cnt_take_succ l j h, hv]; rfl
  have h2 := cnt_take_le l (j + 1)
  have hlt : cnt (l.take j) < cnt l := by omega
  obtain ⟨a1, a2, a3⟩ := sel_spec l _ hlt
  refine ⟨hlt, ?_⟩
  rcases Nat.lt_trichotomy (sel (cnt (l.take j)) l) j with hh | hh | hh
  · exfalso
    have e1 : cnt (l.take (sel (cnt (l.take j)) l + 1)) = cnt (l.take (sel (cnt (l.take j)) l)) + 1 := by
      rw [cnt_take_succ l _ a1]
      rw [List.getElem?_eq_getElem a1] at a2
      rw [Option.some.inj a2]; rfl
    have e2 := cnt_take_mono l (show sel (cnt (l.take j)) l + 1 ≤ j from hh)
    omega
  · exact hh
  · exfalso
    have e2 := cnt_take_mono l (show j + 1 ≤ sel (cnt (l.take j)) l from hh)
    omega
theorem lives_nw {w w1 : World} {l : List Bool} {b : Nat} (h : Nw w l b w1) (hT : Tab w) (h0 : 0 < w.heap.size) : Hid (∀ k, Calls Tryd.prog 9 #[] (w1.drewN k) fun e w' => e = .returned (.bool true) ∧ Below w.heap.size w w') :=
  Lib.hid fun k => (lives_any _ ((h.drewN k).tab hT h0) (Nat.lt_of_lt_of_le h0 (h.drewN k).2.2.size)).mono fun _ _ h2 => ⟨h2.1, (Nw.below (h.drewN k) h2.2).2.2⟩
set_option maxRecDepth 100000 in
set_option maxHeartbeats 4000000 in
theorem rankLaw_any (A : Option Addr) (c : Nat) (l : List Bool) (i : Int) (w : World) (hi1 : -9223372036854775808 ≤ i) (hi2 : i ≤ 9223372036854775807) (hr : RdB w w.heap.size A l) (hT : Tab w) (h0 : 0 < w.heap.size) : Calls Tryd.prog 3 #[.slice A l.length c, .int .i64 i] w fun e w' => e = .returned (.bool true) ∧ Below w.heap.size w w' := by
  have HT := Lib.hid hT
  have HR := Lib.hid hr
  clear hT hr
  by_cases hl : l.length ≤ 200
  · have KM := Lib.hid (made_any A c l w HR.out (by omega))
    go_enter Tryd.func3, Tryd.ntmps3
    go_wp2_with fail
    refine KM.out.mono ?_
    rintro e w1 ⟨b, rfl, hn⟩
    have HN := Lib.hid hn
    have HR1 : Hid (∀ k, RdB (w1.drewN k) (w1.drewN k).heap.size A l) := Lib.hid fun k => HR.out.next (hn.drewN k).2.2
    clear hn KM HR
    have KS : Hid (Calls Tryd.prog 11 #[.pointer (some ⟨b, 0, none⟩), .slice A l.length c] w1 fun e w' => e = .returned (.bool true) ∧ ∃ k, w' = w1.drewN k) := Lib.hid (same_any HN.out.1 A c (HR1.out 0))
    go_wp2_with fail
    refine KS.out.mono ?_
    rintro e w' ⟨rfl, m1, rfl⟩
    go_wp2_with fail
    go_loopw [7] (fun x wr => ∃ (j k : Nat), x = .int .i64 j ∧ j ≤ l.length + 1 ∧ wr = w1.drewN k) (fun x _ => l.length + 1 - (intOf x).toNat)
    case atStart => exact ⟨0, _, rfl, Nat.zero_le _, rfl⟩
    case round =>
      obtain ⟨j, k, rfl, hj, rfl⟩ := hrel
      by_cases hlt : j ≤ l.length
      · have KR := Lib.hid (rank_in (HN.out.drewN k).1 j hlt)
        have KF : Hid (∀ k, Calls Tryd.prog 13 #[.slice A l.length c, .int .i64 j] (w1.drewN k) fun e w' => e = .returned (.int .i64 (cnt (l.take j) : Nat)) ∧ w1.drewN k = w') := Lib.hid fun k => refRank_any A c l j _ (HR1.out k) hlt (by omega)
        have hq := cnt_le l
        have hrq := cnt_take_le l j
        have KZ : Hid (∀ k, Calls Tryd.prog 14 #[.pointer (some ⟨b, 0, none⟩), .int .i64 (cnt (l.take j) : Nat)] (w1.drewN k) fun e w' => e = .returned (.tuple #[.int .i64 ((selAns l (cnt (l.take j))).1 : Nat), .int .i64 (selAns l (cnt (l.take j))).2]) ∧ ∃ m, w' = (w1.drewN k).drewN m) := Lib.hid fun k => sel_any (HN.out.drewN k).1 ((HN.out.drewN k).tab HT.out h0) _ (by omega)
        have KC : Hid (∀ k, Calls Tryd.prog 15 #[.pointer (some ⟨b, 0, none⟩)] (w1.drewN k) fun e w' => e = .returned (.int .i64 (cnt l : Nat)) ∧ ∃ m, w' = (w1.drewN k).drewN m) := Lib.hid fun k => count_any (HN.out.drewN k).1
        have HX : (j < l.length ∧ ∃ h : j < l.length, l[j] = true ∧ cnt (l.take j) < cnt l ∧ selAns l (cnt (l.take j)) = (j, 0)) ∨ (j < l.length ∧ ∃ h : j < l.length, l[j] = false ∧ cnt (l.take j) < cnt l) ∨ ((j < l.length ∧ ∃ h : j < l.length, l[j] = false) ∧ cnt (l.take j) = cnt l ∧ selAns l (cnt (l.take j)) = (0, 11)) ∨ (j = l.length ∧ cnt (l.take j) = cnt l ∧ selAns l (cnt (l.take j)) = (0, 11)) := by
          by_cases h : j < l.length
          · cases hv : l[j] with
            | true =>
              obtain ⟨a1, a2⟩ := sel_at h hv
              exact .inl ⟨h, h, hv, a1, by unfold selAns; rw [if_pos a1, a2]⟩
            | false =>
              by_cases h2 : cnt (l.take j) < cnt l
              · exact .inr (.inl ⟨h, h, hv, h2⟩)
              · exact .inr (.inr (.inl ⟨⟨h, h, hv⟩, by omega, by unfold selAns; rw [if_neg h2]⟩))
          · have e : j = l.length := by omega
            subst e
            have h3 : cnt (l.take l.length) = cnt l := cnt_take_all l (Nat.le_refl _)
            exact .inr (.inr (.inr ⟨rfl, h3, by unfold selAns; rw [if_neg (by omega)]⟩))
        generalize selAns l (cnt (l.take j)) = sa at *
        generalize cnt (l.take j) = r at *
        generalize cnt l = q at *
        rcases HX with ⟨h, _, hv, hrq2, rfl⟩ | ⟨h, _, hv, hrq2⟩ | ⟨⟨h, _, hv⟩, rfl, rfl⟩ | ⟨rfl, rfl, rfl⟩
        · obtain ⟨p, o, hA, hbl, c0⟩ := HR1.out 0 j h
          subst hA
          have c1 : w1.cell? ⟨p, o + j, none⟩ = some (.bool true) := by rw [← hv]; exact c0
          clear c0
          have hne : ¬ ((r : Int) = (q : Int)) := by omega
          go_wp2_with fail
          refine KR.out.mono ?_
          rintro e w' ⟨rfl, n1, rfl⟩
          go_wp2_with fail
          refine (KF.out _).mono ?_
          rintro e w' ⟨rfl, rfl⟩
          go_wp2_with fail
          refine (KZ.out _).mono ?_
          rintro e w' ⟨rfl, n2, rfl⟩
          go_wp2_with fail
          refine (KC.out _).mono ?_
          rintro e w' ⟨rfl, n3, rfl⟩
          go_wp2_with fail
          go_roundw
          case rel => exact ⟨j + 1, _, by go_num, by omega, rfl⟩
          case measure => simp [intOf] <;> omega
        · obtain ⟨p, o, hA, hbl, c0⟩ := HR1.out 0 j h
          subst hA
          have c1 : w1.cell? ⟨p, o + j, none⟩ = some (.bool false) := by rw [← hv]; exact c0
          clear c0
          have hne : ¬ ((r : Int) = (q : Int)) := by omega
          go_wp2_with fail
          refine KR.out.mono ?_
          rintro e w' ⟨rfl, n1, rfl⟩
          go_wp2_with fail
          refine (KF.out _).mono ?_
          rintro e w' ⟨rfl, rfl⟩
          go_wp2_with fail
          refine (KZ.out _).mono ?_
          rintro e w' ⟨rfl, n2, rfl⟩
          go_wp2_with fail
          refine (KC.out _).mono ?_
          rintro e w' ⟨rfl, n3, rfl⟩
          go_wp2_with fail
          go_roundw
          case rel => exact ⟨j + 1, _, by go_num, by omega, rfl⟩
          case measure => simp [intOf] <;> omega
        · obtain ⟨p, o, hA, hbl, c0⟩ := HR1.out 0 j h
          subst hA
          have c1 : w1.cell? ⟨p, o + j, none⟩ = some (.bool false) := by rw [← hv]; exact c0
          clear c0
          go_wp2_with fail
          refine KR.out.mono ?_
          rintro e w' ⟨rfl, n1, rfl⟩
          go_wp2_with fail
          refine (KF.out _).mono ?_
          rintro e w' ⟨rfl, rfl⟩
          go_wp2_with fail
          refine (KZ.out _).mono ?_
          rintro e w' ⟨rfl, n2, rfl⟩
          go_wp2_with fail
          refine (KC.out _).mono ?_
          rintro e w' ⟨rfl, n3, rfl⟩
          go_wp2_with fail
          go_roundw
          case rel => exact ⟨j + 1, _, by go_num, by omega, rfl⟩
          case measure => simp [intOf] <;> omega
        · have hne : ¬ ((l.length : Int) < (l.length : Int)) := by omega
          go_wp2_with fail
          refine KR.out.mono ?_
          rintro e w' ⟨rfl, n1, rfl⟩
          go_wp2_with fail
          refine (KF.out _).mono ?_
          rintro e w' ⟨rfl, rfl⟩
          go_wp2_with fail
          refine (KZ.out _).mono ?_
          rintro e w' ⟨rfl, n2, rfl⟩
          go_wp2_with fail
          refine (KC.out _).mono ?_
          rintro e w' ⟨rfl, n3, rfl⟩
          go_wp2_with fail
          go_roundw
          case rel => exact ⟨l.length + 1, _, by go_num, by omega, rfl⟩
          case measure => simp [intOf] <;> omega
      · obtain rfl : j = l.length + 1 := by omega
        clear KS
        have KL := lives_nw HN.out HT.out h0
        have hq := cnt_le l
        rcases (show i < 0 ∨ (l.length : Int) < i ∨ (0 ≤ i ∧ i ≤ l.length) by omega) with hi | hi | hi
        · have KR : Hid (∀ k, Calls Tryd.prog 12 #[.pointer (some ⟨b, 0, none⟩), .int .i64 i] (w1.drewN k) fun e w' => e = .returned (.tuple #[.int .i64 0, .int .i64 4]) ∧ w1.drewN k = w') := Lib.hid fun k => rank_out (HN.out.drewN k).1 i hi2 (.inl hi)
          have KZ : Hid (∀ k, Calls Tryd.prog 14 #[.pointer (some ⟨b, 0, none⟩), .int .i64 i] (w1.drewN k) fun e w' => e = .returned (.tuple #[.int .i64 0, .int .i64 11]) ∧ w1.drewN k = w') := Lib.hid fun k => sel_neg _ i hi
          go_wp2_with fail
          refine (KR.out _).mono ?_
          rintro e w' ⟨rfl, rfl⟩
          go_wp2_with fail
          refine (KZ.out _).mono ?_
          rintro e w' ⟨rfl, rfl⟩
          go_wp2_with fail
          refine (KL.out _).mono ?_
          rintro e w' ⟨rfl, hb⟩
          have HB := Lib.hid hb
          clear hb
          go_wp2_with fail
          go_ret
          exact ⟨rfl, HB.out⟩
        · obtain ⟨n, rfl⟩ : ∃ n : Nat, i = n := ⟨i.toNat, by omega⟩
          have hsn : selAns l n = (0, 11) := by unfold selAns; rw [if_neg (by omega)]
          have hng : ¬ ((n : Int) < 0) := by omega
          have KR : Hid (∀ k, Calls Tryd.prog 12 #[.pointer (some ⟨b, 0, none⟩), .int .i64 n] (w1.drewN k) fun e w' => e = .returned (.tuple #[.int .i64 0, .int .i64 4]) ∧ w1.drewN k = w') := Lib.hid fun k => rank_out (HN.out.drewN k).1 n hi2 (.inr hi)
          have KZ : Hid (∀ k, Calls Tryd.prog 14 #[.pointer (some ⟨b, 0, none⟩), .int .i64 n] (w1.drewN k) fun e w' => e = .returned (.tuple #[.int .i64 0, .int .i64 11]) ∧ ∃ m, w' = (w1.drewN k).drewN m) := Lib.hid fun k => by have := sel_any (HN.out.drewN k).1 ((HN.out.drewN k).tab HT.out h0) n (by omega); rw [hsn] at this; exact this
          go_wp2_with fail
          refine (KR.out _).mono ?_
          rintro e w' ⟨rfl, rfl⟩
          go_wp2_with fail
          refine (KZ.out _).mono ?_
          rintro e w' ⟨rfl, n1, rfl⟩
          go_wp2_with fail
          refine (KL.out _).mono ?_
          rintro e w' ⟨rfl, hb⟩
          have HB := Lib.hid hb
          clear hb
          go_wp2_with fail
          go_ret
          exact ⟨rfl, HB.out⟩
        · obtain ⟨n, rfl⟩ : ∃ n : Nat, i = n := ⟨i.toNat, by omega⟩
          have hng : ¬ ((n : Int) < 0) := by omega
          have KR : Hid (∀ k, Calls Tryd.prog 12 #[.pointer (some ⟨b, 0, none⟩), .int .i64 n] (w1.drewN k) fun e w' => e = .returned (.tuple #[.int .i64 (cnt (l.take n) : Nat), .int .i64 0]) ∧ ∃ m, w' = (w1.drewN k).drewN m) := Lib.hid fun k => rank_in (HN.out.drewN k).1 n (by omega)
          generalize cnt (l.take n) = r at *
          by_cases hc : n < cnt l
          · have hsn : selAns l n = (sel n l, 0) := by unfold selAns; rw [if_pos hc]
            have KZ : Hid (∀ k, Calls Tryd.prog 14 #[.pointer (some ⟨b, 0, none⟩), .int .i64 n] (w1.drewN k) fun e w' => e = .returned (.tuple #[.int .i64 ((sel n l : Nat) : Int), .int .i64 0]) ∧ ∃ m, w' = (w1.drewN k).drewN m) := Lib.hid fun k => by have := sel_any (HN.out.drewN k).1 ((HN.out.drewN k).tab HT.out h0) n (by omega); rw [hsn] at this; exact this
            have KC : Hid (∀ k, Calls Tryd.prog 15 #[.pointer (some ⟨b, 0, none⟩)] (w1.drewN k) fun e w' => e = .returned (.int .i64 (cnt l : Nat)) ∧ ∃ m, w' = (w1.drewN k).drewN m) := Lib.hid fun k => count_any (HN.out.drewN k).1
            clear hsn
            generalize cnt l = q at *
            go_wp2_with fail
            refine (KR.out _).mono ?_
            rintro e w' ⟨rfl, n1, rfl⟩
            go_wp2_with fail
            refine (KZ.out _).mono ?_
            rintro e w' ⟨rfl, n2, rfl⟩
            go_wp2_with fail
            refine (KC.out _).mono ?_
            rintro e w' ⟨rfl, n3, rfl⟩
            go_wp2_with fail
            refine (KL.out _).mono ?_
            rintro e w' ⟨rfl, hb⟩
            have HB := Lib.hid hb
            clear hb
            go_wp2_with fail
            go_ret
            exact ⟨rfl, HB.out⟩
          · have hsn : selAns l n = (0, 11) := by unfold selAns; rw [if_neg hc]
            have KZ : Hid (∀ k, Calls Tryd.prog 14 #[.pointer (some ⟨b, 0, none⟩), .int .i64 n] (w1.drewN k) fun e w' => e = .returned (.tuple #[.int .i64 ((0 : Nat) : Int), .int .i64 11]) ∧ ∃ m, w' = (w1.drewN k).drewN m) := Lib.hid fun k => by have := sel_any (HN.out.drewN k).1 ((HN.out.drewN k).tab HT.out h0) n (by omega); rw [hsn] at this; exact this
            have KC : Hid (∀ k, Calls Tryd.prog 15 #[.pointer (some ⟨b, 0, none⟩)] (w1.drewN k) fun e w' => e = .returned (.int .i64 (cnt l : Nat)) ∧ ∃ m, w' = (w1.drewN k).drewN m) := Lib.hid fun k => count_any (HN.out.drewN k).1
            clear hsn
            generalize cnt l = q at *
            go_wp2_with fail
            refine (KR.out _).mono ?_
            rintro e w' ⟨rfl, n1, rfl⟩
            go_wp2_with fail
            refine (KZ.out _).mono ?_
            rintro e w' ⟨rfl, n2, rfl⟩
            go_wp2_with fail
            refine (KC.out _).mono ?_
            rintro e w' ⟨rfl, n3, rfl⟩
            go_wp2_with fail
            refine (KL.out _).mono ?_
            rintro e w' ⟨rfl, hb⟩
            have HB := Lib.hid hb
            clear hb
            go_wp2_with fail
            go_ret
            exact ⟨rfl, HB.out⟩
  · have KL := Lib.hid (lives_any w HT.out h0)
    go_enter Tryd.func3, Tryd.ntmps3
    go_wp2_with fail
    refine KL.out.mono ?_
    rintro e w' ⟨rfl, hb⟩
    have HB := Lib.hid hb
    clear hb
    go_wp2_with fail
    go_ret
    exact ⟨rfl, HB.out⟩
end Go.Proofs.YtbdjpacmbaoaeaaDoor
