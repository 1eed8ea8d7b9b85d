/- The walk of the law FenwicksSums. -/
import Derived.Test.YthdohijhioocgaaLaw1W
namespace Go.Proofs.Ythdohijhioocgaa
open Go.RowKit

theorem below_back {w w1 w2 : World} {n : Nat} (h : Below w.heap.size w w1) (k : Below (w1.drewN n).heap.size (w1.drewN n) w2) : Below w.heap.size w w2 :=
  h.trans ((show Below w1.heap.size w1 w2 from ⟨k.os, k.tape, k.output, k.size, k.block⟩).mono h.size)

set_option maxRecDepth 100000 in
set_option maxHeartbeats 1000000 in
theorem law2_long (hL : LivesOk) (A : Option Addr) (c : Nat) (zs : List Int) (i : Int) (w : World) (hl : 60 < zs.length) (hl2 : zs.length ≤ 9223372036854775807) :
    Calls Try.prog 4 #[.slice A zs.length c, .int .i64 i] w fun e w' => e = .returned (.bool true) ∧ Below w.heap.size w w' := by
  have HL := Lib.hid hL; clear hL
  go_enter Try.func4, Try.ntmps4
  go_wp2_with fail
  refine (HL.out _).mono ?_
  rintro e w1 ⟨rfl, hb⟩
  go_wp2_with fail
  go_ret
  exact ⟨rfl, hb⟩
set_option maxRecDepth 100000 in
set_option maxHeartbeats 1000000 in
theorem law2_bad (hL : LivesOk) (A : Option Addr) (c : Nat) (zs : List Int) (i : Int) (w : World) (hr : RdI w w.heap.size A zs) (hl : zs.length ≤ 60) (h0 : chk zs ≠ 0) :
    Calls Try.prog 4 #[.slice A zs.length c, .int .i64 i] w fun e w' => e = .returned (.bool true) ∧ Below w.heap.size w w' := by
  have HL := Lib.hid hL; clear hL
  have h10 := Lib.hid (refCheck_any A c zs w hr (by omega))
  clear hr
  generalize chk zs = r at *
  have b1 : (r == 0) = false := by simpa using h0
  have b2 : (r != 0) = true := by simpa using h0
  clear h0
  go_enter Try.func4, Try.ntmps4
  go_wp2_with fail
  refine h10.out.mono ?_
  rintro e w' ⟨rfl, rfl⟩
  go_wp2_with fail
  refine (HL.out _).mono ?_
  rintro e w1 ⟨rfl, hb⟩
  go_wp2_with fail
  go_ret
  exact ⟨rfl, hb⟩

set_option maxRecDepth 100000 in
set_option maxHeartbeats 4000000 in
theorem law2_ok (hL : LivesOk) (A : Option Addr) (c : Nat) (zs : List Int) (i : Int) (w : World) (hr : RdI w w.heap.size A zs) (hl : zs.length ≤ 60) (h0 : chk zs = 0) :
    Calls Try.prog 4 #[.slice A zs.length c, .int .i64 i] w fun e w' => e = .returned (.bool true) ∧ Below w.heap.size w w' := by
  have HL := Lib.hid hL; clear hL
  have hv := chk_zero.1 h0
  have h10 := Lib.hid (refCheck_any A c zs w hr (by omega))
  have h11 := Lib.hid (new_ok A c zs w hr hv)
  rw [h0] at h10
  have HR := Lib.hid hr
  have HV := Lib.hid hv
  clear hr hv h0
  have d60 : decide (60 < zs.length) = false := by simpa using hl
  go_enter Try.func4, Try.ntmps4
  go_wp2_with fail
  refine h10.out.mono ?_
  rintro e w' ⟨rfl, rfl⟩
  go_wp2_with fail
  refine h11.out.mono ?_
  rintro e w1 ⟨b, S, s, rfl, hT, hb, hS, hB⟩
  have HT := Lib.hid hT
  have HB := Lib.hid hB
  have HR1 := Lib.hid (HR.out.next hB)
  clear hT hB hb hS h10 h11
  go_wp2_with fail
  go_loopw [7] (fun k wr => ∃ n m : Nat, k = .int .i64 n ∧ n ≤ zs.length + 1 ∧ wr = w1.drewN m) (fun k _ => zs.length + 1 - (intOf k).toNat)
  case atStart => exact ⟨0, 0, rfl, Nat.zero_le _, rfl⟩
  case round =>
    obtain ⟨n, m, rfl, hn, rfl⟩ := hrel
    have HTm := Lib.hid (HT.out.drewN m)
    by_cases hle : n ≤ zs.length
    · have h18 := Lib.hid (sum_tree HTm.out n hle)
      have h15 := Lib.hid (refSum_any A c zs (w1.drewN m) HR1.out HV.out n hle)
      by_cases hlt : n < zs.length
      · have h19 := Lib.hid (at_tree HTm.out n hlt)
        obtain ⟨b1, o1, rfl, hb1, hc1⟩ := HR1.out n hlt
        generalize zs[n] = v at *
        generalize pre zs n = p at *
        go_wp2_with fail
        refine h18.out.mono ?_
        rintro e w' ⟨rfl, rfl⟩
        go_wp2_with fail
        refine h15.out.mono ?_
        rintro e w' ⟨rfl, rfl⟩
        go_wp2_with fail
        refine h19.out.mono ?_
        rintro e w' ⟨rfl, m2, rfl⟩
        go_wp2_with fail
        go_roundw
        case rel => exact ⟨n + 1, m + m2, by go_num, by omega, rfl⟩
        case measure => simp [intOf]; omega
      · generalize pre zs n = p at *
        go_wp2_with fail
        refine h18.out.mono ?_
        rintro e w' ⟨rfl, rfl⟩
        go_wp2_with fail
        refine h15.out.mono ?_
        rintro e w' ⟨rfl, rfl⟩
        go_wp2_with fail
        go_roundw
        case rel => exact ⟨n + 1, m, by go_num, by omega, rfl⟩
        case measure => simp [intOf]; omega
    · obtain rfl : n = zs.length + 1 := by omega
      go_wp2_with fail
      by_cases hi0 : i < 0
      · have h18 := Lib.hid (sum_out HTm.out i (.inl hi0))
        have h19 := Lib.hid (at_out HTm.out i (.inl hi0))
        refine h18.out.mono ?_
        rintro e w' ⟨rfl, rfl⟩
        go_wp2_with fail
        refine h19.out.mono ?_
        rintro e w' ⟨rfl, m2, rfl⟩
        go_wp2_with fail
        refine (HL.out _).mono ?_
        rintro e w3 ⟨rfl, hb3⟩
        have HB3 := Lib.hid (below_back HB.out hb3)
        clear hb3
        go_wp2_with fail
        go_ret
        exact ⟨rfl, HB3.out⟩
      · obtain ⟨j, rfl⟩ : ∃ j : Nat, i = j := ⟨i.toNat, by omega⟩
        rcases Nat.lt_trichotomy j zs.length with hj | hj | hj
        · have h18 := Lib.hid (sum_tree HTm.out j (by omega))
          have h19 := Lib.hid (at_tree HTm.out j hj)
          generalize zs[j] = v at *
          generalize pre zs j = p at *
          refine h18.out.mono ?_
          rintro e w' ⟨rfl, rfl⟩
          go_wp2_with fail
          refine h19.out.mono ?_
          rintro e w' ⟨rfl, m2, rfl⟩
          go_wp2_with fail
          refine (HL.out _).mono ?_
          rintro e w3 ⟨rfl, hb3⟩
          have HB3 := Lib.hid (below_back HB.out hb3)
          clear hb3
          go_wp2_with fail
          go_ret
          exact ⟨rfl, HB3.out⟩
        · have h18 := Lib.hid (sum_tree HTm.out j (by omega))
          have h19 := Lib.hid (at_out HTm.out j (.inr (by omega)))
          generalize pre zs j = p at *
          subst hj
          refine h18.out.mono ?_
          rintro e w' ⟨rfl, rfl⟩
          go_wp2_with fail
          refine h19.out.mono ?_
          rintro e w' ⟨rfl, m2, rfl⟩
          go_wp2_with fail
          refine (HL.out _).mono ?_
          rintro e w3 ⟨rfl, hb3⟩
          have HB3 := Lib.hid (below_back HB.out hb3)
          clear hb3
          go_wp2_with fail
          go_ret
          exact ⟨rfl, HB3.out⟩
        · have hj1 : decide (j ≤ zs.length) = false := by simpa using hj
          have hj2 : decide (j < zs.length) = false := by simp; omega
          have h18 := Lib.hid (sum_out HTm.out j (.inr (by omega)))
          have h19 := Lib.hid (at_out HTm.out j (.inr (by omega)))
          refine h18.out.mono ?_
          rintro e w' ⟨rfl, rfl⟩
          go_wp2_with fail
          refine h19.out.mono ?_
          rintro e w' ⟨rfl, m2, rfl⟩
          go_wp2_with fail
          refine (HL.out _).mono ?_
          rintro e w3 ⟨rfl, hb3⟩
          have HB3 := Lib.hid (below_back HB.out hb3)
          clear hb3
          go_wp2_with fail
          go_ret
          exact ⟨rfl, HB3.out⟩
theorem law2_any (hL : LivesOk) (A : Option Addr) (c : Nat) (zs : List Int) (i : Int) (w : World) (hr : RdI w w.heap.size A zs) (hl2 : zs.length ≤ 9223372036854775807) :
    Calls Try.prog 4 #[.slice A zs.length c, .int .i64 i] w fun e w' => e = .returned (.bool true) ∧ Below w.heap.size w w' := by
  rcases Nat.lt_or_ge 60 zs.length with h | h
  · exact law2_long hL A c zs i w h hl2
  · by_cases h0 : chk zs = 0
    · exact law2_ok hL A c zs i w hr h h0
    · exact law2_bad hL A c zs i w hr h h0
end Go.Proofs.Ythdohijhioocgaa
