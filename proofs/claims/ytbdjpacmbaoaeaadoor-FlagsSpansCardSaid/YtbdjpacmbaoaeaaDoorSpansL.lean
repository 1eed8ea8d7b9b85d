/- The walk of FlagsSpans. -/
import Derived.Test.YtbdjpacmbaoaeaaDoorSpM
namespace Go.Proofs.YtbdjpacmbaoaeaaDoor
open Go.RowKit S

set_option maxRecDepth 100000 in
set_option maxHeartbeats 4000000 in
theorem spansLaw_any (A : Option Addr) (c : Nat) (l : List Bool) (x y : Nat) (hx : x ≤ 255) (hy : y ≤ 255) (w : World) (hr : RdB w w.heap.size A l) (hT : Tab w) (h0 : 0 < w.heap.size) : Calls Tryd.prog 6 #[.slice A l.length c, .int .u8 x, .int .u8 y] w fun e w' => e = .returned (.bool true) ∧ Below w.heap.size w w' := by
  have HT := Lib.hid hT
  have HR := Lib.hid hr
  clear hT hr
  obtain ⟨a, ha, hae⟩ : ∃ a : Nat, a ≤ l.length ∧ (x : Int) % ((l.length : Int) + 1) = (a : Int) := ⟨x % (l.length + 1), by have := Nat.mod_lt x (show 0 < l.length + 1 by omega); omega, by simp⟩
  obtain ⟨n, hn, hne⟩ : ∃ n : Nat, a + n ≤ l.length ∧ (y : Int) % ((l.length : Int) - (a : Int) + 1) = (n : Int) := ⟨y % (l.length - a + 1), by have := Nat.mod_lt y (show 0 < l.length - a + 1 by omega); omega, by
    have e : (l.length : Int) - (a : Int) + 1 = ((l.length - a + 1 : Nat) : Int) := by omega
    rw [e]; simp⟩
  by_cases hl : l.length ≤ 200
  · have KM := Lib.hid (made_any A c l w HR.out (by omega))
    go_enter Tryd.func6, Tryd.ntmps6
    go_wp2_with fail
    refine KM.out.mono ?_
    rintro e w1 ⟨b, rfl, hn⟩
    have HN := Lib.hid hn
    clear hn KM
    have K := Lib.hid (spans_any HN.out.1 (HN.out.tab HT.out h0) (Nat.lt_of_lt_of_le h0 HN.out.2.2.size))
    go_wp2_with fail
    refine K.out.mono ?_
    rintro e w2 ⟨B, L, rfl, hk, hrd, hb⟩
    have HK := Lib.hid hk
    have HL := Lib.hid hrd
    have HN2 := Lib.hid (Nw.below HN.out hb)
    have hll := hk.len
    clear hk hrd hb K HN
    have K := Lib.hid (refSpans_any A c l w2 (HR.out.next HN2.out.2.2) (by omega))
    go_wp2_with fail
    refine K.out.mono ?_
    rintro e w3 ⟨v, M, rfl, hk, hown, hb⟩
    obtain rfl := mk_one hk HK.out
    obtain ⟨D, d, rfl, hd, hrd⟩ := hown.rd
    have HM := Lib.hid hrd
    have HL3 : Hid (Rd w3 w3.heap.size B M) := Lib.hid ((HL.out.below hb).more hb.size)
    have HN3 := Lib.hid (Nw.below HN2.out hb)
    clear hk hown hrd hb K HL HN2
    go_wp2_with fail
    go_loopw [11] (fun i wr => ∃ (k : Nat), i = .int .i64 k ∧ k ≤ M.length ∧ Below w3.heap.size w3 wr) (fun i _ => M.length - (intOf i).toNat)
    case atStart => exact ⟨0, rfl, Nat.zero_le _, Below.refl _ _⟩
    case round =>
      obtain ⟨k, rfl, hk, hb⟩ := hrel
      by_cases hlt : k < M.length
      · obtain ⟨b1, o1, hA1, hbl1, c0, c1⟩ := HL3.out.below hb k hlt
        subst hA1
        obtain ⟨b2, o2, hA2, hbl2, d0, d1⟩ := HM.out.below hb k hlt
        subst hA2
        have hi0 : (0 : Int) ≤ (k : Int) := Int.natCast_nonneg _
        have hi1 : (k : Int) < (M.length : Int) := by omega
        have e1 : (M[k].1 != M[k].1) = false := by simp
        have e2 : (M[k].2 != M[k].2) = false := by simp
        generalize M[k] = s at *
        obtain ⟨p, q⟩ := s
        simp only at c0 c1 d0 d1 e1 e2
        go_wp2_with fail
        go_quiet (fail)
        go_wp2_with fail
        go_roundw
        case rel => exact ⟨k + 1, by go_num, by omega, below_drewN hb _⟩
        case measure => simp [intOf]; omega
      · obtain rfl : k = M.length := by omega
        rename World => w4
        have HN4 := Lib.hid (Nw.below HN3.out hb)
        have HL4 : Hid (Rd w4 w4.heap.size B M) := Lib.hid (Rd.next' HL3.out hb)
        clear hb HN3 HL3 HM
        have K := Lib.hid (copy_any HN4.out.1)
        go_wp2_with fail
        refine K.out.mono ?_
        rintro e w5 ⟨c5, rfl, hc⟩
        have HC5 := Lib.hid (Nw.more HN4.out.2.2 hc)
        have HN5 := Lib.hid (Nw.below HN4.out hc.2.2)
        have HL5 := Lib.hid (Rd.next' HL4.out hc.2.2)
        have hne5 : Hid (b ≠ c5) := Lib.hid (by have h1 := HN4.out.1.lt_size; have h2 := hc.2.1; omega)
        clear hc K HN4 HL4
        have K := Lib.hid (ins_in HN5.out.1 a y false ha (by omega))
        go_wp2_with fail
        refine K.out.mono ?_
        intro e w6 hc
        have HN6 := Lib.hid (Nw.ch HN5.out hc)
        have HC6 := Lib.hid (Nw.other HC5.out (Ne.symm hne5.out) HN5.out.2.1 hc)
        have HL6 := Lib.hid (rd_ch HL5.out HN5.out.1 hc)
        obtain ⟨rfl, -⟩ := hc
        clear K HN5 HC5 HL5
        have K := Lib.hid (rem_in HC6.out.1 a n hn)
        go_wp2_with fail
        refine K.out.mono ?_
        intro e w7 hc
        have HC7 := Lib.hid (Nw.ch HC6.out hc)
        have HN7 := Lib.hid (Nw.other HN6.out hne5.out HC6.out.2.1 hc)
        have HL7 := Lib.hid (rd_ch HL6.out HC6.out.1 hc)
        obtain ⟨rfl, -⟩ := hc
        clear K HN6 HC6 HL6
        have K := Lib.hid (spIns (c := M.length) HK.out HL7.out a y (by omega) ha (by omega))
        go_wp2_with fail
        refine K.out.mono ?_
        rintro e w8 ⟨B8, M8, rfl, hk8, hr8, hb⟩
        have HK8 := Lib.hid hk8
        have HR8 := Lib.hid hr8
        have HN8 := Lib.hid (Nw.below HN7.out hb)
        have HC8 := Lib.hid (Nw.below HC7.out hb)
        have HL8 := Lib.hid (Rd.next' HL7.out hb)
        clear hk8 hr8 hb K HN7 HC7 HL7
        have K := Lib.hid (spRem (c := M.length) HK.out HL8.out a n (by omega) ha (by omega))
        go_wp2_with fail
        refine K.out.mono ?_
        rintro e w9 ⟨B9, M9, rfl, hk9, hr9, hb⟩
        have HK9 := Lib.hid hk9
        have HR9 := Lib.hid hr9
        have HN9 := Lib.hid (Nw.below HN8.out hb)
        have HC9 := Lib.hid (Nw.below HC8.out hb)
        have HQ8 := Lib.hid (Rd.next' HR8.out hb)
        clear hk9 hr9 hb K HN8 HC8 HL8 HR8
        have K := Lib.hid (spans_any HN9.out.1 (HN9.out.tab HT.out h0) (Nat.lt_of_lt_of_le h0 HN9.out.2.2.size))
        go_wp2_with fail
        refine K.out.mono ?_
        rintro e w10 ⟨B10, M10, rfl, hk10, hr10, hb⟩
        obtain rfl := mk_one hk10 HK8.out
        have HR10 := Lib.hid hr10
        have HC10 := Lib.hid (Nw.below HC9.out hb)
        have HP8 := Lib.hid (Rd.next' HQ8.out hb)
        have HP9 := Lib.hid (Rd.next' HR9.out hb)
        clear hk10 hr10 hb K HN9 HC9 HQ8 HR9
        have K := Lib.hid (spans_any HC10.out.1 (HC10.out.tab HT.out h0) (Nat.lt_of_lt_of_le h0 HC10.out.2.2.size))
        go_wp2_with fail
        refine K.out.mono ?_
        rintro e w11 ⟨B11, M11, rfl, hk11, hr11, hb⟩
        obtain rfl := mk_one hk11 HK9.out
        have HR11 := Lib.hid hr11
        have HC11 := Lib.hid (Nw.below HC10.out hb)
        have HS8 := Lib.hid (Rd.next' HP8.out hb)
        have HS9 := Lib.hid (Rd.next' HP9.out hb)
        have HS10 := Lib.hid (Rd.next' HR10.out hb)
        clear hk11 hr11 hb K HC10 HP8 HP9 HR10
        have hz8 : M10.length ≤ 1000 := by have := HK8.out.len; rw [insB_len ha] at this; omega
        have hz9 : M11.length ≤ 1000 := by have := HK9.out.len; simp only [List.length_append, List.length_take, List.length_drop] at this; omega
        clear HK8 HK9 HK hll
        go_wp2_with fail
        go_loopw [23] (fun i wr => ∃ (k : Nat), i = .int .i64 k ∧ k ≤ M10.length ∧ Below w11.heap.size w11 wr) (fun i _ => M10.length - (intOf i).toNat)
        case atStart => exact ⟨0, rfl, Nat.zero_le _, Below.refl _ _⟩
        case round =>
          obtain ⟨k, rfl, hk, hb⟩ := hrel
          by_cases hlt : k < M10.length
          · obtain ⟨b1, o1, hA1, hbl1, c0, c1⟩ := HS10.out.below hb k hlt
            subst hA1
            obtain ⟨b2, o2, hA2, hbl2, d0, d1⟩ := HS8.out.below hb k hlt
            subst hA2
            have hi0 : (0 : Int) ≤ (k : Int) := Int.natCast_nonneg _
            have hi1 : (k : Int) < (M10.length : Int) := by omega
            have e1 : (M10[k].1 != M10[k].1) = false := by simp
            have e2 : (M10[k].2 != M10[k].2) = false := by simp
            generalize M10[k] = s at *
            obtain ⟨p, q⟩ := s
            simp only at c0 c1 d0 d1 e1 e2
            go_wp2_with fail
            go_quiet (fail)
            go_wp2_with fail
            go_roundw
            case rel => exact ⟨k + 1, by go_num, by omega, below_drewN hb _⟩
            case measure => simp [intOf]; omega
          · obtain rfl : k = M10.length := by omega
            rename World => w12
            have HB12 := Lib.hid hb
            clear hb
            go_wp2_with fail
            go_loopw [24] (fun i wr => ∃ (k : Nat), i = .int .i64 k ∧ k ≤ M11.length ∧ Below w11.heap.size w11 wr) (fun i _ => M11.length - (intOf i).toNat)
            case atStart => exact ⟨0, rfl, Nat.zero_le _, HB12.out⟩
            case round =>
              obtain ⟨k, rfl, hk, hb⟩ := hrel
              by_cases hlt : k < M11.length
              · obtain ⟨b1, o1, hA1, hbl1, c0, c1⟩ := HR11.out.below hb k hlt
                subst hA1
                obtain ⟨b2, o2, hA2, hbl2, d0, d1⟩ := HS9.out.below hb k hlt
                subst hA2
                have hi0 : (0 : Int) ≤ (k : Int) := Int.natCast_nonneg _
                have hi1 : (k : Int) < (M11.length : Int) := by omega
                have e1 : (M11[k].1 != M11[k].1) = false := by simp
                have e2 : (M11[k].2 != M11[k].2) = false := by simp
                generalize M11[k] = s at *
                obtain ⟨p, q⟩ := s
                simp only at c0 c1 d0 d1 e1 e2
                go_wp2_with fail
                go_quiet (fail)
                go_wp2_with fail
                go_roundw
                case rel => exact ⟨k + 1, by go_num, by omega, below_drewN hb _⟩
                case measure => simp [intOf]; omega
              · obtain rfl : k = M11.length := by omega
                rename World => w13
                have HB13 := Lib.hid (Nw.below HC11.out hb)
                have KL := lives_nw HB13.out HT.out h0
                clear hb
                go_wp2_with fail
                refine (KL.out 0).mono ?_
                rintro e w' ⟨rfl, hb⟩
                have HB := Lib.hid hb
                clear hb
                go_wp2_with fail
                go_ret
                exact ⟨rfl, HB.out⟩
  · have KL := Lib.hid (lives_any w HT.out h0)
    go_enter Tryd.func6, Tryd.ntmps6
    go_wp2_with fail
    refine KL.out.mono ?_
    rintro e w' ⟨rfl, hb⟩
    have HB := Lib.hid hb
    clear hb
    go_wp2_with fail
    go_ret
    exact ⟨rfl, HB.out⟩
end Go.Proofs.YtbdjpacmbaoaeaaDoor
