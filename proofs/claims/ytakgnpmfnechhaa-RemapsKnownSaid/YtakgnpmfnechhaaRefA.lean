/- The reference: At, Check. -/
import Derived.Test.YtakgnpmfnechhaaBase
import Derived.Deep.Cut
namespace Go.Proofs.Ytakgnpmfnechhaa
open Go.RowKit

set_option maxHeartbeats 1000000 in
theorem at_any {w : World} {A : Option Addr} (c : Nat) {l : List Int} (h : RdI w w.heap.size A l) (hl : l.length ≤ 9223372036854775807) (x : Int) :
    Calls Try.prog 20 #[.slice A l.length c, .int .i64 x] w fun e w' => e = .returned (.int .i64 (atL l x)) ∧ w = w' := by
  have HR := Lib.hid h
  clear h
  go_enter Try.func20, Try.ntmps20
  go_wp2_with fail
  go_loopw [5] (fun v wr => ∃ i : Nat, i ≤ l.length ∧ v = .int .i64 i ∧ Hid (∀ j (h : j < l.length), j < i → l[j] ≠ x) ∧ w = wr) (fun v _ => l.length - (intOf v).toNat)
  case atStart => exact ⟨0, Nat.zero_le _, rfl, Lib.hid (fun j _ h => absurd h (Nat.not_lt_zero _)), rfl⟩
  case round =>
    obtain ⟨i, hi, rfl, HX, rfl⟩ := hrel
    by_cases hlt : i < l.length
    · obtain ⟨b, o, rfl, hb, hc⟩ := HR.out i hlt
      have HE := Lib.hid (fun e : l[i] = x => atL_eq hlt e HX.out)
      have HN := Lib.hid (fun e : l[i] ≠ x => (show ∀ j (h : j < l.length), j < i + 1 → l[j] ≠ x from fun j hj hji => by
        rcases Nat.lt_succ_iff_lt_or_eq.1 hji with h2 | rfl
        · exact HX.out j hj h2
        · exact e))
      obtain ⟨y, hy⟩ : ∃ y, l[i] = y := ⟨_, rfl⟩
      rw [hy] at hc HE HN
      clear hy hb
      by_cases hk : y = x
      · have HE2 := Lib.hid (HE.out hk)
        subst hk
        clear HE HN
        go_wp2_with fail
        go_ret
        exact ⟨ret_int HE2.out.symm, rfl⟩
      · have HN2 := Lib.hid (HN.out hk)
        have hk2 : (y == x) = false := by simpa using hk
        clear HE HN
        go_wp2_with fail
        go_roundw
        case rel => exact ⟨i + 1, by omega, by go_num, HN2, trivial⟩
        case measure => first | (simp [intOf]; done) | (simp [intOf]; omega)
    · obtain rfl : i = l.length := by omega
      have HE : Hid (atL l x = -1) := Lib.hid (atL_none fun hm => by
        obtain ⟨j, hj, e⟩ := List.getElem_of_mem hm
        exact HX.out j hj hj e)
      go_wp2_with fail
      go_ret
      exact ⟨ret_int HE.out.symm, rfl⟩
/-- the reference's check at a number -/
theorem seen_not {l : List Int} {i : Nat} (hi : i < l.length) (h : ∀ j (h : j < l.length), j < i → l[j] ≠ l[i]) : l[i] ∉ l.take i := fun hm => by
  obtain ⟨j, hj, e⟩ := List.getElem_of_mem hm
  rw [List.length_take] at hj
  rw [List.getElem_take] at e
  exact h j (by omega) (by omega) e
/-- a number is returned, the world has only drawn -/
def NumD (n : Int) (w : World) (e : Ending) (w' : World) : Prop := e = .returned (.int .i64 n) ∧ ∃ m, w' = w.drewN m
set_option maxRecDepth 100000 in
set_option maxHeartbeats 4000000 in
theorem refCheck_any {w : World} {A : Option Addr} (o : Int) (c : Nat) {l : List Int} (h : RdI w w.heap.size A l) (hl : l.length ≤ 9223372036854775807) :
    Calls Try.prog 10 #[.int .i64 o, .slice A l.length c] w (NumD (chkM o l) w) := by
  have HR := Lib.hid h
  clear h
  by_cases ho : o < 0
  · have HC : Hid (chkM o l = 1) := Lib.hid (by unfold chkM; rw [if_pos ho])
    go_enter Try.func10, Try.ntmps10
    go_wp2_with fail
    go_ret
    exact ⟨ret_int HC.out.symm, 0, rfl⟩
  by_cases ho2 : 4096 < o
  · have HC : Hid (chkM o l = 3) := Lib.hid (by unfold chkM; rw [if_neg ho, if_pos (.inl ho2)])
    go_enter Try.func10, Try.ntmps10
    go_wp2_with fail
    go_ret
    exact ⟨ret_int HC.out.symm, 0, rfl⟩
  by_cases hl4 : 4096 < l.length
  · have HC : Hid (chkM o l = 3) := Lib.hid (by unfold chkM; rw [if_neg ho, if_pos (.inr hl4)])
    have hl5 : (4096 : Int) < (l.length : Int) := by omega
    go_enter Try.func10, Try.ntmps10
    go_wp2_with fail
    go_ret
    exact ⟨ret_int HC.out.symm, 0, rfl⟩
  · have HC : Hid (chkM o l = chkW o [] l) := Lib.hid (by unfold chkM; rw [if_neg ho, if_neg (by omega)])
    have hl5 : (l.length : Int) ≤ 4096 := by omega
    go_enter Try.func10, Try.ntmps10
    go_wp2_with fail
    go_loopw [5] (fun v wr => ∃ (i m : Nat), i ≤ l.length ∧ v = .int .i64 i ∧ Hid (chkW o [] l = chkW o (l.take i) (l.drop i)) ∧ wr = w.drewN m) (fun v _ => l.length - (intOf v).toNat)
    case atStart => exact ⟨0, 0, Nat.zero_le _, rfl, Lib.hid rfl, rfl⟩
    case round =>
      obtain ⟨i, m, hi, rfl, HX, rfl⟩ := hrel
      by_cases hlt : i < l.length
      · obtain ⟨b, q, rfl, hb, hc⟩ := HR.out i hlt
        have hst := HX.out.trans (chkW_step hlt)
        have HSN := Lib.hid (seen_not hlt)
        have hin : ∀ j (h : j < l.length), j < i → l[j] ∈ l.take i := fun j hj hji => by
          have := List.getElem_mem (l := l.take i) (n := j) (by rw [List.length_take]; omega)
          rwa [List.getElem_take] at this
        have HIN := Lib.hid hin
        obtain ⟨y, hy⟩ : ∃ y, l[i] = y := ⟨_, rfl⟩
        rw [hy] at hc hst HSN
        clear hy hb hin
        by_cases hneg : y < -1
        · rw [if_pos (.inl hneg)] at hst
          have HE := Lib.hid hst
          clear hst
          go_wp2_with fail
          go_ret
          exact ⟨ret_int (by rw [HC.out, HE.out]), m, rfl⟩
        by_cases hbig : o ≤ y
        · rw [if_pos (.inr hbig)] at hst
          have HE := Lib.hid hst
          clear hst
          go_wp2_with fail
          go_ret
          exact ⟨ret_int (by rw [HC.out, HE.out]), m, rfl⟩
        rw [if_neg (by omega)] at hst
        by_cases hn1 : y < 0
        · rw [if_neg (by omega)] at hst
          have HE := Lib.hid hst
          clear hst HSN HIN
          have hn2 : ¬ (0 ≤ y) := by omega
          by_cases hi0 : 0 < i
          all_goals
            go_wp2_with fail
            go_loopw [6] (fun v wr => v = .int .i64 0 ∧ wr = w.drewN m) (fun v _ => 0)
            case atStart => exact ⟨rfl, rfl⟩
            case round =>
              obtain ⟨rfl, rfl⟩ := hrel
              go_wp2_with fail
              go_roundw
              case rel => exact ⟨i + 1, m, by omega, by go_num, HE, rfl⟩
              case measure => first | (simp [intOf]; done) | (simp [intOf]; omega)
        · have hn2 : 0 ≤ y := by omega
          have HS := Lib.hid hst
          clear hst
          go_wp2_with fail
          go_loopw [6] (fun v wr => ∃ (j m2 : Nat), j ≤ i ∧ v = .int .i64 j ∧ Hid (∀ k (h : k < l.length), k < j → l[k] ≠ y) ∧ wr = w.drewN m2) (fun v _ => i - (intOf v).toNat)
          case atStart => exact ⟨0, m, Nat.zero_le _, rfl, Lib.hid (fun k _ h => absurd h (Nat.not_lt_zero _)), rfl⟩
          case round =>
            obtain ⟨j, m2, hj, rfl, HJ, rfl⟩ := hrel
            by_cases hji : j < i
            · have hj2 : j < l.length := by omega
              obtain ⟨b2, o2, e2, hb2, hc2⟩ := HR.out j hj2
              injection e2 with e2
              injection e2 with e3 e4
              subst e3; subst e4
              have HM := Lib.hid (fun e : l[j] = y => e ▸ HIN.out j hj2 hji)
              have HN := Lib.hid (fun e : l[j] ≠ y => (show ∀ k (h : k < l.length), k < j + 1 → l[k] ≠ y from fun k hk hkj => by
                rcases Nat.lt_succ_iff_lt_or_eq.1 hkj with h2 | rfl
                · exact HJ.out k hk h2
                · exact e))
              obtain ⟨z, hz⟩ : ∃ z, l[j] = z := ⟨_, rfl⟩
              rw [hz] at hc2 HM HN
              clear hz hb2
              by_cases hzy : z = y
              · have hm := HM.out hzy
                have hs := HS.out
                rw [if_pos ⟨hn2, hm⟩] at hs
                have HE := Lib.hid hs
                subst hzy
                clear hm hs HM HN HS HSN
                go_upto_region 13 with fail
                go_quiet (fail)
                go_wp2_with fail
                go_ret
                exact ⟨ret_int (by rw [HC.out, HE.out]), _, rfl⟩
              · have HN2 := Lib.hid (HN.out hzy)
                have hzy2 : (z == y) = false := by simpa using hzy
                clear HM HN
                go_upto_region 13 with fail
                go_quiet (fail)
                go_wp2_with fail
                go_roundw
                case rel => exact ⟨j + 1, _, by omega, by go_num, HN2, rfl⟩
                case measure => first | (simp [intOf]; done) | (simp [intOf]; omega)
            · obtain rfl : j = i := by omega
              have hm : y ∉ l.take j := HSN.out HJ.out
              have hs := HS.out
              rw [if_neg (fun h => hm h.2)] at hs
              have HE := Lib.hid hs
              clear hm hs HS HSN
              go_wp2_with fail
              go_roundw
              case rel => exact ⟨j + 1, m2, by omega, by go_num, HE, rfl⟩
              case measure => first | (simp [intOf]; done) | (simp [intOf]; omega)
      · obtain rfl : i = l.length := by omega
        have hx := HX.out
        rw [List.drop_length] at hx
        have HE : Hid (chkM o l = 0) := Lib.hid (by rw [HC.out, hx]; rfl)
        clear hx
        go_wp2_with fail
        go_ret
        exact ⟨ret_int HE.out.symm, m, rfl⟩
end Go.Proofs.Ytakgnpmfnechhaa
