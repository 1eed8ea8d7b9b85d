/- The walk of the reference's Move. -/
import Derived.Test.YtfkjnepafgehiaaRefI
namespace Go.Proofs.Ytfkjnepafgehiaa
open Go.RowKit

set_option maxHeartbeats 2000000 in
theorem refMov_bad {w : World} {A : Option Addr} {c : Nat} {l : List Int} (h : SlI w A c l) (i n x : Int) (hi2 : i ≤ 9223372036854775807) (hn2 : n ≤ 9223372036854775807) (hl : l.length ≤ 4096) (hb : partE l.length i n = 4) :
    Calls Try.prog 31 #[.slice A l.length c, .int .i64 i, .int .i64 n, .int .i64 x] w (RowN ([], 4) w) := by
  have hR := refRem_any h i n hi2 hn2 hl
  unfold RowN remR at hR
  rw [if_neg (by rw [hb]; decide)] at hR
  have HR := Lib.hid hR
  clear h hR hb
  go_enter Try.func31, Try.ntmps31
  go_wp2_with fail
  refine HR.out.mono ?_
  rintro e w1 ⟨A1, c1, rfl, _, kk, _⟩
  go_wp2_with fail
  go_ret2
  exact ⟨none, 0, rfl, ⟨RdI.nil, Nat.le_refl _, by omega, fun _ => rfl⟩, kk, fun _ h => by cases h⟩
set_option maxHeartbeats 2000000 in
theorem refMov_far {w : World} {A : Option Addr} {c : Nat} {l : List Int} (h : SlI w A c l) (i n : Nat) (x : Int) (hi : i + n ≤ l.length) (hx2 : x ≤ 9223372036854775807) (hl : l.length ≤ 4096) (hb : x < 0 ∨ (l.length : Int) - n < x) :
    Calls Try.prog 31 #[.slice A l.length c, .int .i64 i, .int .i64 n, .int .i64 x] w (RowN ([], 4) w) := by
  have hR := refRem_ok h i n hi hl
  unfold RowN at hR
  have hm : (l.take i ++ l.drop (i + n)).length = l.length - n := by rw [List.length_append, List.length_take, List.length_drop]; omega
  generalize l.take i ++ l.drop (i + n) = m at *
  have HR := Lib.hid hR
  clear h hR
  rcases (show x < 0 ∨ (¬ (x < 0) ∧ (m.length : Int) < x) by omega) with h | ⟨h, h2⟩
  all_goals
    clear hm hb
    go_enter Try.func31, Try.ntmps31
    go_wp2_with fail
    refine HR.out.mono ?_
    rintro e w1 ⟨A1, c1, rfl, _, kk, _⟩
    go_wp2_with fail
    go_ret2
    exact ⟨none, 0, rfl, ⟨RdI.nil, Nat.le_refl _, by omega, fun _ => rfl⟩, kk, fun _ h => by cases h⟩
set_option maxHeartbeats 4000000 in
theorem refMov_ok {w : World} {A : Option Addr} {c : Nat} {l : List Int} (h : SlI w A c l) (i n x : Nat) (hi : i + n ≤ l.length) (hx : x ≤ l.length - n) (hl : l.length ≤ 4096) :
    Calls Try.prog 31 #[.slice A l.length c, .int .i64 i, .int .i64 n, .int .i64 x] w (RowN ((l.take i ++ l.drop (i + n)).take x ++ (l.drop i).take n ++ (l.take i ++ l.drop (i + n)).drop x, 0) w) := by
  have hR := refRem_ok h i n hi hl
  unfold RowN at hR
  have hm : (l.take i ++ l.drop (i + n)).length = l.length - n := by rw [List.length_append, List.length_take, List.length_drop]; omega
  generalize l.take i ++ l.drop (i + n) = m at *
  have hle := h.le
  have hmx := h.max
  have HA := Lib.hid h
  have HR := Lib.hid hR
  have htx : (m.take x).length = x := by rw [List.length_take]; omega
  have hdx : (m.drop x).length = m.length - x := List.length_drop
  obtain ⟨q, hq⟩ : ∃ q : Nat, i + n = q := ⟨_, rfl⟩
  have hpn : ((l.drop i).take n).length = q - i := by rw [List.length_take, List.length_drop]; omega
  obtain ⟨A2, hA2⟩ : ∃ A2, (if c = i then A else A.map fun x => x.add i) = A2 := ⟨_, rfl⟩
  have HP : Hid (∀ w', Below w.heap.size w w' → SlI w' A2 (c - i) ((l.drop i).take n)) := Lib.hid (fun w' hb => by
    have := ((HA.out.below hb).rest i (by omega)).head n
    rw [hA2] at this
    exact this)
  have HQ := Lib.hid hq
  have hm4 : m.length ≤ 4096 := by omega
  have hxm : x ≤ m.length := by omega
  have hwq : IntKind.i64.wrap ((i : Int) + (n : Int)) = (q : Int) := by rw [← Int.natCast_add, HQ.out]; exact IntWalk.i64_in _ (by omega)
  have hiq : i ≤ q := by omega
  have hqc : q ≤ c := by omega
  have hql : q ≤ l.length := by omega
  clear h hR hm hq hi hx
  go_enter Try.func31, Try.ntmps31
  go_wp2_with fail
  refine HR.out.mono ?_
  rintro e w1 ⟨A1, c1, rfl, hs1, kk, _⟩
  have hle1 := hs1.le
  have hsz := kk.size
  have hb1 := (below_new w1 (.cells #[] 2)).drew
  have hbb := kk.trans (hb1.mono kk.size)
  have HO : Hid (OwnI ((w1.alloc (.cells #[] 2)).drew) w1.heap.size (.slice (some ⟨w1.heap.size, 0, none⟩) 0 0) []) := Lib.hid (made0 w1)
  have HB1 := Lib.hid hb1
  have HB := Lib.hid hbb
  have HM := Lib.hid hs1
  obtain ⟨D2, hD2⟩ : ∃ D2, (if c1 = x then A1 else A1.map fun a => a.add x) = D2 := ⟨_, rfl⟩
  have HM0 := Lib.hid ((hs1.below hb1).head x)
  have HM2 : Hid (∀ w', Below w1.heap.size w1 w' → SlI w' D2 (c1 - x) (m.drop x)) := Lib.hid (fun w' hb => by
    have := (HM.out.below hb).rest x hxm
    rw [hD2] at this
    exact this)
  have z0 : (0 : Int) ≤ (x : Int) := by omega
  have z1 : (x : Int) ≤ (c1 : Int) := by omega
  have z2 : (0 : Int) ≤ (i : Int) := by omega
  have z3 : (i : Int) ≤ (q : Int) := by omega
  have z4 : (q : Int) ≤ (c : Int) := by omega
  have z5 : (x : Int) ≤ (m.length : Int) := by omega
  have d1 : decide ((x : Int) < 0) = false := decide_eq_false (by omega)
  have d2 : decide ((m.length : Int) < (x : Int)) = false := decide_eq_false (by omega)
  clear hb1 hbb kk hs1
  go_upto_region 4 with fail
  go_region_law (first
      | (refine step_app rfl (.tmp 32) (.tmp 35) rfl w1.heap.size _ [] rfl A1 c1 (m.take x) x rfl htx.symm HO.out HM0.out (by simp; omega) HB1.out.size ?_
         intro v1 w2 H1 B1)
      | (refine step_app rfl (.tmp 36) (.tmp 42) rfl w1.heap.size v1 ([] ++ m.take x) rfl A2 (c - i) ((l.drop i).take n) (q - i) rfl hpn.symm H1.out (HP.out _ (HB.out.trans (B1.out.mono hsz))) (by simp only [List.nil_append]; omega) (HB1.out.trans B1.out).size ?_
         intro v2 w3 H2 B2))
  go_wp2_with (
    at_builtin
    refine wp_app rfl (.tmp 44) (.tmp 47) rfl w1.heap.size v2 ([] ++ m.take x ++ (l.drop i).take n) rfl D2 (c1 - x) (m.drop x) _ rfl hdx.symm H2.out (HM2.out _ ((HB1.out.trans B1.out).trans B2.out)) (by simp only [List.nil_append, List.length_append]; omega) ((HB1.out.trans B1.out).trans B2.out).size ?_
    intro v3 w4 H3 B3)
  go_ret2
  exact rowN_own (by have := H3.out.le hsz; rwa [List.nil_append] at this) (((HB.out.trans (B1.out.mono hsz)).trans (B2.out.mono hsz)).trans (B3.out.mono hsz))
theorem refMov_any {w : World} {A : Option Addr} {c : Nat} {l : List Int} (h : SlI w A c l) (i n x : Int) (hi2 : i ≤ 9223372036854775807) (hn2 : n ≤ 9223372036854775807) (hx2 : x ≤ 9223372036854775807) (hl : l.length ≤ 4096) :
    Calls Try.prog 31 #[.slice A l.length c, .int .i64 i, .int .i64 n, .int .i64 x] w (RowN (movR l i n x) w) := by
  unfold movR
  rcases partE_two l.length i n with hp | hp
  · rw [if_pos hp]
    obtain ⟨a, b, rfl, rfl, hab⟩ := partE_cases hp
    by_cases hx : partE (l.length - (b : Int).toNat) x 0 = 0
    · rw [if_pos hx]
      obtain ⟨y, z, rfl, hz, hyz⟩ := partE_cases hx
      exact refMov_ok h a b y hab (by simp at hyz; omega) hl
    · rw [if_neg hx]
      refine refMov_far h a b x hab hx2 hl ?_
      unfold partE at hx
      split at hx
      · rename_i hh
        simp at hh
        omega
      · exact absurd rfl hx
  · rw [if_neg (by rw [hp]; decide)]
    exact refMov_bad h i n x hi2 hn2 hl hp
end Go.Proofs.Ytfkjnepafgehiaa
