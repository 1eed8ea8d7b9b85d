/- The reference: Pair. -/
import Derived.Test.YtejgcpohdbiaoaaRefA
namespace Go.Proofs.Ytejgcpohdbiaoaa
open Go.RowKit

set_option maxRecDepth 100000 in
set_option maxHeartbeats 4000000 in
theorem pair_any {w : World} {A B : Option Addr} (c d : Nat) {old now : List Int} (ha : RdI w w.heap.size A old) (hb : RdI w w.heap.size B now) (hla : old.length ≤ 9223372036854775807) (hlb : now.length ≤ 9223372036854775807) :
    Calls Try.prog 21 #[.slice A old.length c, .slice B now.length d] w fun e w' => e = .returned (.int .i64 (pairE old now)) ∧ ∃ m, w' = w.drewN m := by
  have H1 := Lib.hid (refCheck_any c ha hla)
  have H2 := Lib.hid (fun m => refCheck_any (w := w.drewN m) d hb hlb)
  have H3 := Lib.hid (fun m x => at_any (w := w.drewN m) c ha hla x)
  have HB := Lib.hid hb
  clear ha hb
  by_cases h0 : chk old = 0
  · rw [h0] at H1
    by_cases h1 : chk now = 0
    · rw [h1] at H2
      by_cases h2 : old.length = now.length
      · have h2' : ((old.length : Int) != (now.length : Int)) = false := by simp [h2]
        have h2'' : ((old.length : Int) == (now.length : Int)) = true := by simp [h2]
        have HP : Hid (pairE old now = if ∀ x ∈ now, x ∈ old then 0 else 16) := Lib.hid (by
          unfold pairE
          rw [if_neg (by simp [h0]), if_neg (by simp [h1]), if_neg (by simp [h2])])
        clear h0 h1 h2
        go_enter Try.func21, Try.ntmps21
        go_wp2_with fail
        refine H1.out.mono ?_
        rintro e w1 ⟨rfl, m1, rfl⟩
        go_wp2_with fail
        refine (H2.out m1).mono ?_
        rintro e w2 ⟨rfl, m2, rfl⟩
        go_wp2_with fail
        go_loopw [6] (fun v wr => ∃ i : Nat, i ≤ now.length ∧ v = .int .i64 i ∧ Hid (∀ j (h : j < now.length), j < i → now[j] ∈ old) ∧ ∃ m, wr = w.drewN m) (fun v _ => now.length - (intOf v).toNat)
        case atStart => exact ⟨0, Nat.zero_le _, rfl, Lib.hid (fun j _ h => absurd h (Nat.not_lt_zero _)), _, rfl⟩
        case round =>
          obtain ⟨i, hi, rfl, HX, m, rfl⟩ := hrel
          by_cases hlt : i < now.length
          · obtain ⟨b, o, rfl, hb, hc⟩ := HB.out i hlt
            have HA := Lib.hid (H3.out m now[i])
            have HN := Lib.hid (fun e : now[i] ∈ old => (show ∀ j (h : j < now.length), j < i + 1 → now[j] ∈ old from fun j hj hji => by
              rcases Nat.lt_succ_iff_lt_or_eq.1 hji with h2 | rfl
              · exact HX.out j hj h2
              · exact e))
            have HO := Lib.hid (fun e : now[i] ∉ old => (show pairE old now = 16 by rw [HP.out, if_neg (fun h => e (h _ (List.getElem_mem hlt)))]))
            obtain ⟨x, hx⟩ : ∃ x, now[i] = x := ⟨_, rfl⟩
            rw [hx] at hc HA HN HO
            clear hx hb
            by_cases hm : x ∈ old
            · have hneg : ¬ (atL old x < 0) := fun h => atL_neg.1 h hm
              have HN2 := Lib.hid (HN.out hm)
              generalize atL old x = y at *
              clear HN HO hm
              go_wp2_with fail
              refine HA.out.mono ?_
              rintro e w3 ⟨rfl, rfl⟩
              go_wp2_with fail
              go_roundw
              case rel => exact ⟨i + 1, by omega, by go_num, HN2, m, rfl⟩
              case measure => first | (simp [intOf]; done) | (simp [intOf]; omega)
            · have hneg : atL old x < 0 := atL_neg.2 hm
              have HE := Lib.hid (HO.out hm)
              generalize atL old x = y at *
              clear HN HO hm
              go_wp2_with fail
              refine HA.out.mono ?_
              rintro e w3 ⟨rfl, rfl⟩
              go_wp2_with fail
              go_ret
              exact ⟨ret_int HE.out.symm, m, rfl⟩
          · obtain rfl : i = now.length := by omega
            have HE : Hid (pairE old now = 0) := Lib.hid (by
              rw [HP.out, if_pos]
              intro x hx
              obtain ⟨j, hj, rfl⟩ := List.getElem_of_mem hx
              exact HX.out j hj hj)
            go_wp2_with fail
            go_ret
            exact ⟨ret_int HE.out.symm, m, rfl⟩
      · have h2' : ((old.length : Int) != (now.length : Int)) = true := by simp; omega
        have h2'' : ((old.length : Int) == (now.length : Int)) = false := by simp; omega
        have HP : Hid (pairE old now = 16) := Lib.hid (by
          unfold pairE
          rw [if_neg (by simp [h0]), if_neg (by simp [h1]), if_pos (by exact h2)])
        clear h0 h1 h2
        go_enter Try.func21, Try.ntmps21
        go_wp2_with fail
        refine H1.out.mono ?_
        rintro e w1 ⟨rfl, m1, rfl⟩
        go_wp2_with fail
        refine (H2.out m1).mono ?_
        rintro e w2 ⟨rfl, m2, rfl⟩
        go_wp2_with fail
        go_ret
        exact ⟨ret_int HP.out.symm, _, rfl⟩
    · have HP : Hid (pairE old now = chk now) := Lib.hid (by
        unfold pairE
        rw [if_neg (by simp [h0]), if_pos (by exact h1)])
      obtain ⟨f, hf⟩ : ∃ f, chk now = f := ⟨_, rfl⟩
      rw [hf] at HP H2 h1
      have h1' : (f != 0) = true := by simpa using h1
      have h1'' : (f == 0) = false := by simpa using h1
      clear h0 hf
      go_enter Try.func21, Try.ntmps21
      go_wp2_with fail
      refine H1.out.mono ?_
      rintro e w1 ⟨rfl, m1, rfl⟩
      go_wp2_with fail
      refine (H2.out m1).mono ?_
      rintro e w2 ⟨rfl, m2, rfl⟩
      go_wp2_with fail
      go_ret
      exact ⟨ret_int HP.out.symm, _, rfl⟩
  · have HP : Hid (pairE old now = chk old) := Lib.hid (by
      unfold pairE
      rw [if_pos (by exact h0)])
    obtain ⟨f, hf⟩ : ∃ f, chk old = f := ⟨_, rfl⟩
    rw [hf] at HP H1 h0
    have h1' : (f != 0) = true := by simpa using h0
    have h1'' : (f == 0) = false := by simpa using h0
    clear hf
    go_enter Try.func21, Try.ntmps21
    go_wp2_with fail
    refine H1.out.mono ?_
    rintro e w1 ⟨rfl, m1, rfl⟩
    go_wp2_with fail
    go_ret
    exact ⟨ret_int HP.out.symm, _, rfl⟩
end Go.Proofs.Ytejgcpohdbiaoaa
