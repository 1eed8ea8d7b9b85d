/- The walk of FlagsNext. -/
import Derived.Test.YtbdjpacmbaoaeaaDoorRankL
namespace Go.Proofs.YtbdjpacmbaoaeaaDoor
open Go.RowKit S

set_option maxRecDepth 100000 in
set_option maxHeartbeats 4000000 in
theorem nextLaw_any (A : Option Addr) (c : Nat) (l : List Bool) (i : Int) (w : World) (hi1 : -9223372036854775808 ≤ i) (hi2 : i ≤ 9223372036854775807) (hr : RdB w w.heap.size A l) (hT : Tab w) (h0 : 0 < w.heap.size) : Calls Tryd.prog 4 #[.slice A l.length c, .int .i64 i] w fun e w' => e = .returned (.bool true) ∧ Below w.heap.size w w' := by
  have HT := Lib.hid hT
  have HR := Lib.hid hr
  clear hT hr
  by_cases hl : l.length ≤ 200
  · have KM := Lib.hid (made_any A c l w HR.out (by omega))
    go_enter Tryd.func4, Tryd.ntmps4
    go_wp2_with fail
    refine KM.out.mono ?_
    rintro e w1 ⟨b, rfl, hn⟩
    have HN := Lib.hid hn
    have HR1 : Hid (∀ k, RdB (w1.drewN k) (w1.drewN k).heap.size A l) := Lib.hid fun k => HR.out.next (hn.drewN k).2.2
    clear hn KM HR
    have KL := lives_nw HN.out HT.out h0
    go_wp2_with fail
    go_loopw [7] (fun x wr => ∃ (j k : Nat), x = .int .i64 j ∧ j ≤ 2 ∧ wr = w1.drewN k) (fun x _ => 2 - (intOf x).toNat)
    case atStart => exact ⟨0, 0, rfl, Nat.zero_le _, rfl⟩
    case round =>
      obtain ⟨j, k, rfl, hj, rfl⟩ := hrel
      by_cases hlt : j < 2
      · rcases (show i < 0 ∨ (l.length : Int) < i ∨ (0 ≤ i ∧ i ≤ l.length) by omega) with hi | hi | hi
        · obtain rfl | rfl : j = 0 ∨ j = 1 := by omega
          · have KN := Lib.hid (next_out (HN.out.drewN k).1 i false hi2 (.inl hi))
            go_wp2_with fail
            refine KN.out.mono ?_
            rintro e w' ⟨rfl, rfl⟩
            go_wp2_with fail
            go_roundw
            case rel => exact ⟨1, _, by go_num, by omega, rfl⟩
            case measure => simp [intOf] <;> omega
          · have KN := Lib.hid (next_out (HN.out.drewN k).1 i true hi2 (.inl hi))
            go_wp2_with fail
            refine KN.out.mono ?_
            rintro e w' ⟨rfl, rfl⟩
            go_wp2_with fail
            go_roundw
            case rel => exact ⟨2, _, by go_num, by omega, rfl⟩
            case measure => simp [intOf] <;> omega
        · obtain rfl | rfl : j = 0 ∨ j = 1 := by omega
          · have KN := Lib.hid (next_out (HN.out.drewN k).1 i false hi2 (.inr hi))
            have hng : ¬ (i < 0) := by omega
            go_wp2_with fail
            refine KN.out.mono ?_
            rintro e w' ⟨rfl, rfl⟩
            go_wp2_with fail
            go_roundw
            case rel => exact ⟨1, _, by go_num, by omega, rfl⟩
            case measure => simp [intOf] <;> omega
          · have KN := Lib.hid (next_out (HN.out.drewN k).1 i true hi2 (.inr hi))
            have hng : ¬ (i < 0) := by omega
            go_wp2_with fail
            refine KN.out.mono ?_
            rintro e w' ⟨rfl, rfl⟩
            go_wp2_with fail
            go_roundw
            case rel => exact ⟨2, _, by go_num, by omega, rfl⟩
            case measure => simp [intOf] <;> omega
        · obtain ⟨n, rfl⟩ : ∃ n : Nat, i = n := ⟨i.toNat, by omega⟩
          have hng : ¬ ((n : Int) < 0) := by omega
          have hnl : n ≤ l.length := by omega
          obtain rfl | rfl : j = 0 ∨ j = 1 := by omega
          · have KN := Lib.hid (next_any (HN.out.drewN k).1 ((HN.out.drewN k).tab HT.out h0) n hnl false)
            have KF : Hid (∀ k, Calls Tryd.prog 17 #[.slice A l.length c, .int .i64 n, .bool false] (w1.drewN k) fun e w' => ∃ r, e = .returned (.int .i64 (nxRef r)) ∧ IsNx l n false r ∧ w1.drewN k = w') := Lib.hid fun k => refNext_any A c l n false _ (HR1.out k) hnl (by omega)
            go_wp2_with fail
            refine KN.out.mono ?_
            rintro e w' ⟨r, rfl, hx, rfl⟩
            have HX := Lib.hid hx
            clear hx
            cases r with
            | none =>
              simp only [nxPair]
              go_wp2_with fail
              refine (KF.out _).mono ?_
              rintro e w' ⟨r, rfl, hx, rfl⟩
              obtain rfl := HX.out.one hx
              clear hx HX
              simp only [nxRef]
              go_wp2_with fail
              go_roundw
              case rel => exact ⟨1, _, by go_num, by omega, rfl⟩
              case measure => simp [intOf] <;> omega
            | some p =>
              simp only [nxPair]
              go_wp2_with fail
              refine (KF.out _).mono ?_
              rintro e w' ⟨r, rfl, hx, rfl⟩
              obtain rfl := HX.out.one hx
              clear hx HX
              simp only [nxRef]
              go_wp2_with fail
              go_roundw
              case rel => exact ⟨1, _, by go_num, by omega, rfl⟩
              case measure => simp [intOf] <;> omega
          · have KN := Lib.hid (next_any (HN.out.drewN k).1 ((HN.out.drewN k).tab HT.out h0) n hnl true)
            have KF : Hid (∀ k, Calls Tryd.prog 17 #[.slice A l.length c, .int .i64 n, .bool true] (w1.drewN k) fun e w' => ∃ r, e = .returned (.int .i64 (nxRef r)) ∧ IsNx l n true r ∧ w1.drewN k = w') := Lib.hid fun k => refNext_any A c l n true _ (HR1.out k) hnl (by omega)
            go_wp2_with fail
            refine KN.out.mono ?_
            rintro e w' ⟨r, rfl, hx, rfl⟩
            have HX := Lib.hid hx
            clear hx
            cases r with
            | none =>
              simp only [nxPair]
              go_wp2_with fail
              refine (KF.out _).mono ?_
              rintro e w' ⟨r, rfl, hx, rfl⟩
              obtain rfl := HX.out.one hx
              clear hx HX
              simp only [nxRef]
              go_wp2_with fail
              go_roundw
              case rel => exact ⟨2, _, by go_num, by omega, rfl⟩
              case measure => simp [intOf] <;> omega
            | some p =>
              simp only [nxPair]
              go_wp2_with fail
              refine (KF.out _).mono ?_
              rintro e w' ⟨r, rfl, hx, rfl⟩
              obtain rfl := HX.out.one hx
              clear hx HX
              simp only [nxRef]
              go_wp2_with fail
              go_roundw
              case rel => exact ⟨2, _, by go_num, by omega, rfl⟩
              case measure => simp [intOf] <;> omega
      · obtain rfl : j = 2 := by omega
        rcases (show i < 0 ∨ (l.length : Int) ≤ i ∨ (0 ≤ i ∧ i < l.length) by omega) with hi | hi | hi
        · have KG := Lib.hid (get_out (HN.out.drewN k).1 i hi2 (.inl hi))
          have KE : Hid (∀ k, Calls Tryd.prog 19 #[.pointer (some ⟨b, 0, none⟩), .int .i64 i, .bool true] (w1.drewN k) fun e w' => e = .returned (.int .i64 4) ∧ w1.drewN k = w') := Lib.hid fun k => set_out (HN.out.drewN k).1 i true hi2 (.inl hi)
          have KS : Hid (∀ k, Calls Tryd.prog 11 #[.pointer (some ⟨b, 0, none⟩), .slice A l.length c] (w1.drewN k) fun e w' => e = .returned (.bool true) ∧ ∃ m, w' = (w1.drewN k).drewN m) := Lib.hid fun k => same_any (HN.out.drewN k).1 A c (HR1.out k)
          go_wp2_with fail
          refine KG.out.mono ?_
          rintro e w' ⟨rfl, rfl⟩
          go_wp2_with fail
          refine (KE.out _).mono ?_
          rintro e w' ⟨rfl, rfl⟩
          go_wp2_with fail
          refine (KS.out _).mono ?_
          rintro e w' ⟨rfl, n1, rfl⟩
          go_wp2_with fail
          refine (KL.out _).mono ?_
          rintro e w' ⟨rfl, hb⟩
          have HB := Lib.hid hb
          clear hb
          go_wp2_with fail
          go_ret
          exact ⟨rfl, HB.out⟩
        · have KG := Lib.hid (get_out (HN.out.drewN k).1 i hi2 (.inr hi))
          have KE : Hid (∀ k, Calls Tryd.prog 19 #[.pointer (some ⟨b, 0, none⟩), .int .i64 i, .bool true] (w1.drewN k) fun e w' => e = .returned (.int .i64 4) ∧ w1.drewN k = w') := Lib.hid fun k => set_out (HN.out.drewN k).1 i true hi2 (.inr hi)
          have KS : Hid (∀ k, Calls Tryd.prog 11 #[.pointer (some ⟨b, 0, none⟩), .slice A l.length c] (w1.drewN k) fun e w' => e = .returned (.bool true) ∧ ∃ m, w' = (w1.drewN k).drewN m) := Lib.hid fun k => same_any (HN.out.drewN k).1 A c (HR1.out k)
          have hng : ¬ (i < 0) := by omega
          go_wp2_with fail
          refine KG.out.mono ?_
          rintro e w' ⟨rfl, rfl⟩
          go_wp2_with fail
          refine (KE.out _).mono ?_
          rintro e w' ⟨rfl, rfl⟩
          go_wp2_with fail
          refine (KS.out _).mono ?_
          rintro e w' ⟨rfl, n1, rfl⟩
          go_wp2_with fail
          refine (KL.out _).mono ?_
          rintro e w' ⟨rfl, hb⟩
          have HB := Lib.hid hb
          clear hb
          go_wp2_with fail
          go_ret
          exact ⟨rfl, HB.out⟩
        · obtain ⟨n, rfl⟩ : ∃ n : Nat, i = n := ⟨i.toNat, by omega⟩
          have hng : ¬ ((n : Int) < 0) := by omega
          have hnl : n < l.length := by omega
          have KG := Lib.hid (get_in (HN.out.drewN k).1 n hnl)
          obtain ⟨p, o, hA, hbl, c0⟩ := HR1.out 0 n hnl
          subst hA
          have c1 : w1.cell? ⟨p, o + n, none⟩ = some (.bool l[n]) := c0
          clear c0
          have hvv : (l[n] == l[n]) = true := by simp
          generalize l[n] = v at *
          go_wp2_with fail
          refine KG.out.mono ?_
          rintro e w' ⟨rfl, rfl⟩
          go_wp2_with fail
          refine (KL.out _).mono ?_
          rintro e w' ⟨rfl, hb⟩
          have HB := Lib.hid hb
          clear hb
          go_wp2_with fail
          go_ret
          exact ⟨rfl, HB.out⟩
  · have KL := Lib.hid (lives_any w HT.out h0)
    go_enter Tryd.func4, Tryd.ntmps4
    go_wp2_with fail
    refine KL.out.mono ?_
    rintro e w' ⟨rfl, hb⟩
    have HB := Lib.hid hb
    clear hb
    go_wp2_with fail
    go_ret
    exact ⟨rfl, HB.out⟩
end Go.Proofs.YtbdjpacmbaoaeaaDoor
