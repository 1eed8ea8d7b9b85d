/- The walk of the reference's Insert. -/
import Derived.Test.YtfkjnepafgehiaaRefE
namespace Go.Proofs.Ytfkjnepafgehiaa
open Go.RowKit

set_option maxHeartbeats 2000000 in
theorem refIns_bad {w : World} {A S : Option Addr} {c d : Nat} {l s : List Int} (i : Int) (hi2 : i ≤ 9223372036854775807) (_hl : l.length ≤ 4096) (h : i < 0 ∨ (l.length : Int) < i) :
    Calls Try.prog 27 #[.slice A l.length c, .int .i64 i, .slice S s.length d] w (RowN ([], 4) w) := by
  rcases (show i < 0 ∨ (¬ (i < 0) ∧ (l.length : Int) < i) by omega) with h | ⟨h, h2⟩
  all_goals
    go_enter Try.func27, Try.ntmps27
    go_wp2_with fail
    go_ret2
    exact rowN_err
set_option maxHeartbeats 2000000 in
theorem refIns_chk {w : World} {A S : Option Addr} {c d : Nat} {l s : List Int} (hs : SlI w S d s) (i : Nat) (hi : i ≤ l.length) (_hl : l.length ≤ 4096) (h0 : chk s ≠ 0) :
    Calls Try.prog 27 #[.slice A l.length c, .int .i64 i, .slice S s.length d] w (RowN ([], chk s) w) := by
  have hle := hs.le
  have hmx := hs.max
  have HC := Lib.hid (refCheck_any S d s w hs.rd (by omega))
  clear hs
  generalize chk s = r at *
  have b2 : (r != 0) = true := by simpa using h0
  clear h0
  go_enter Try.func27, Try.ntmps27
  go_wp2_with fail
  refine HC.out.mono ?_
  rintro e w' ⟨rfl, rfl⟩
  go_wp2_with fail
  go_ret2
  exact rowN_err
set_option maxHeartbeats 4000000 in
theorem refIns_joined {w : World} {A S : Option Addr} {c d : Nat} {l s : List Int} (h : SlI w A c l) (hs : SlI w S d s) (hv : Vd l) (i : Nat) (hi : i ≤ l.length) (h0 : chk s = 0) :
    Calls Try.prog 27 #[.slice A l.length c, .int .i64 i, .slice S s.length d] w (RowN (if joinE l s = 0 then (l.take i ++ s ++ l.drop i, 0) else ([], joinE l s)) w) := by
  have hl := hv.len
  have hle := h.le
  have hmx := h.max
  have hsl := hs.le
  have hsm := hs.max
  have hvs := chk_zero.1 h0
  have hsn := hvs.len
  have HC := Lib.hid (refCheck_any S d s w hs.rd (by omega))
  rw [h0] at HC
  have hJ := refJoin_any h hs hv hvs
  unfold RowE at hJ
  rw [joinR_err] at hJ
  have HJ := Lib.hid hJ
  have HA := Lib.hid h
  have HS := Lib.hid hs
  have hti : (l.take i).length = i := by rw [List.length_take]; omega
  have hdl : (l.drop i).length = l.length - i := List.length_drop
  obtain ⟨K, hK⟩ : ∃ K, (joinR l s).1 = K := ⟨_, rfl⟩
  rw [hK] at HJ
  clear h hs hv h0 hJ hvs hK
  by_cases hj : joinE l s = 0
  · rw [if_pos hj]
    rw [hj] at HJ
    clear hj
    obtain ⟨A2, hA2⟩ : ∃ A2, (if c = i then A else A.map fun x => x.add i) = A2 := ⟨_, rfl⟩
    go_enter Try.func27, Try.ntmps27
    go_wp2_with fail
    refine HC.out.mono ?_
    rintro e w' ⟨rfl, rfl⟩
    go_wp2_with fail
    refine HJ.out.mono ?_
    rintro e w1 ⟨A1, c1, rfl, _, kk⟩
    have hb1 := below_new w1 (.cells #[] 2)
    have hbb := kk.trans (hb1.mono kk.size)
    have HO := Lib.hid (made0 w1)
    have HB := Lib.hid hbb
    have HS0 := Lib.hid ((HA.out.below hbb).head i)
    have hsz := kk.size
    have z0 : (0 : Int) ≤ (i : Int) := by omega
    have z1 : (i : Int) ≤ (c : Int) := by omega
    have z3 : (i : Int) ≤ (l.length : Int) := by omega
    have HP : Hid (∀ w', Below w.heap.size w w' → SlI w' A2 (c - i) (l.drop i)) := Lib.hid (fun w' hb => by
      have := (HA.out.below hb).rest i hi
      rw [hA2] at this
      exact this)
    clear hb1 hbb kk
    go_wp2_with (
      at_builtin
      first
        | (refine wp_app rfl (.tmp 32) (.tmp 35) rfl w1.heap.size _ [] rfl A c (l.take i) _ rfl hti.symm HO.out HS0.out (by simp; omega) (by simp) ?_
           intro v1 w2 H1 B1)
        | (refine wp_app rfl (.tmp 36) (.tmp 37) rfl w1.heap.size v1 ([] ++ l.take i) rfl S d s _ rfl rfl H1.out (HS.out.below (HB.out.trans (B1.out.mono hsz))) (by simp only [List.nil_append]; omega) (Nat.le_trans (below_new w1 (.cells #[] 2)).size B1.out.size) ?_
           intro v2 w3 H2 B2)
        | (refine wp_app rfl (.tmp 39) (.tmp 42) rfl w1.heap.size v2 ([] ++ l.take i ++ s) rfl A2 (c - i) (l.drop i) _ rfl hdl.symm H2.out (HP.out _ ((HB.out.trans (B1.out.mono hsz)).trans (B2.out.mono hsz))) (by simp only [List.nil_append, List.length_append]; omega) (Nat.le_trans (Nat.le_trans (below_new w1 (.cells #[] 2)).size B1.out.size) B2.out.size) ?_
           intro v3 w4 H3 B3))
    go_ret2
    exact rowN_own (by have := H3.out.le hsz; rwa [List.nil_append] at this) (((HB.out.trans (B1.out.mono hsz)).trans (B2.out.mono hsz)).trans (B3.out.mono hsz))
  · rw [if_neg hj]
    generalize joinE l s = r at *
    have b2 : (r != 0) = true := by simpa using hj
    clear hj
    go_enter Try.func27, Try.ntmps27
    go_wp2_with fail
    refine HC.out.mono ?_
    rintro e w' ⟨rfl, rfl⟩
    go_wp2_with fail
    refine HJ.out.mono ?_
    rintro e w1 ⟨A1, c1, rfl, _, kk⟩
    go_wp2_with fail
    go_ret2
    exact ⟨none, 0, rfl, ⟨RdI.nil, Nat.le_refl _, by omega, fun _ => rfl⟩, kk, fun _ h => by cases h⟩
theorem refIns_any {w : World} {A S : Option Addr} {c d : Nat} {l s : List Int} (h : SlI w A c l) (hs : SlI w S d s) (hv : Vd l) (i : Int) (hi2 : i ≤ 9223372036854775807) :
    Calls Try.prog 27 #[.slice A l.length c, .int .i64 i, .slice S s.length d] w (RowN (insR l i s) w) := by
  unfold insR
  by_cases hp : partE l.length i 0 = 0
  · rw [if_pos hp]
    obtain ⟨a, b, rfl, hb, hab⟩ := partE_cases hp
    by_cases h0 : chk s = 0
    · rw [if_pos h0]
      exact refIns_joined h hs hv a (by omega) h0
    · rw [if_neg h0]
      exact refIns_chk hs a (by omega) hv.len h0
  · rw [if_neg hp]
    refine refIns_bad i hi2 hv.len ?_
    unfold partE at hp
    split at hp
    · omega
    · exact absurd rfl hp
end Go.Proofs.Ytfkjnepafgehiaa
