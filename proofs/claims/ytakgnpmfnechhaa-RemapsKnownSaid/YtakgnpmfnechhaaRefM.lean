/- The walk of the reference's Move. -/
import Derived.Test.YtakgnpmfnechhaaRefR
namespace Go.Proofs.Ytakgnpmfnechhaa
open Go.RowKit

def movR (l : List Int) (a m t : Int) : List Int × Int := if (remR l a m).2 ≠ 0 ∨ t < 0 ∨ (l.length : Int) - m < t then ([], 4) else (movL l a.toNat m.toNat t.toNat, 0)
theorem rowE_at {l : List Int} {f : Int} {n : Nat} {w : World} {e : Ending} {w' : World} (h : RowE (l, f) w e w') (hn : l.length = n) : ∃ A c, e = .returned (.tuple #[.slice A n c, .int .i64 f]) ∧ SlI w' A c l ∧ Below w.heap.size w w' := by
  subst hn
  obtain ⟨A, c, h1, h2, _, h3⟩ := h
  exact ⟨A, c, h1, h2, h3⟩
set_option maxHeartbeats 4000000 in
theorem refMv_ok {w : World} {A : Option Addr} {c : Nat} {l : List Int} (h : SlI w A c l) (i n t : Nat) (hi : i + n ≤ l.length) (hl : l.length ≤ 4096) (ht : t ≤ l.length - n) :
    Calls Try.prog 28 #[.slice A l.length c, .int .i64 i, .int .i64 n, .int .i64 t] w (RowE (movL l i n t, 0) w) := by
  have K := Lib.hid (refRem_ok h i n hi hl)
  have hle := h.le
  have HS := Lib.hid h
  clear h
  have hrl := remL_len hi
  have HM : Hid (movL l i n t = (remL l i n).take t ++ ((l.drop i).take n ++ (remL l i n).drop t)) := Lib.hid rfl
  have hml : ((l.drop i).take n).length = n := by rw [List.length_take, List.length_drop]; omega
  obtain ⟨q, hq⟩ : ∃ q : Nat, i + n = q := ⟨_, rfl⟩
  have HQ := Lib.hid hq
  have hql : q ≤ l.length := by omega
  obtain ⟨A2, hA2⟩ : ∃ A2, (if c = i then A else A.map fun x => x.add i) = A2 := ⟨_, rfl⟩
  have HP : Hid (∀ w', Below w.heap.size w w' → SlI w' A2 (c - i) ((l.drop i).take n)) := Lib.hid (fun w' hb => by
    have := ((HS.out.next hb).rest i (by omega)).head n
    rw [hA2] at this
    exact this)
  go_enter Try.func28, Try.ntmps28
  go_wp2_with fail
  refine K.out.mono ?_
  intro e w1 h1
  obtain ⟨B, d, rfl, hs, hb⟩ := rowE_at h1 hrl
  have HB := Lib.hid hb
  have HR := Lib.hid hs
  have hd := hs.le
  have HO : Hid (OwnI ((w1.alloc (.cells #[] 3)).drew) w1.heap.size (.slice (some ⟨w1.heap.size, 0, none⟩) 0 0) []) := Lib.hid (own_made0 w1)
  have HB1 : Hid (Below w1.heap.size w1 ((w1.alloc (.cells #[] 3)).drew)) := Lib.hid ((Below.refl w1.heap.size w1).alloc (Nat.le_refl _) _).drew
  clear K hs hb HS h1
  generalize remL l i n = r at *
  have HTI : Hid ((r.take t).length = t) := Lib.hid (by rw [List.length_take]; omega)
  have HDI : Hid ((r.drop t).length = l.length - n - t) := Lib.hid (by rw [List.length_drop, hrl])
  have HML := Lib.hid hml
  have HS0 := Lib.hid ((HR.out.next HB1.out).head t)
  obtain ⟨B2, hB2⟩ : ∃ B2, (if d = t then B else B.map fun x => x.add t) = B2 := ⟨_, rfl⟩
  have HP2 : Hid (∀ w', Below w1.heap.size w1 w' → SlI w' B2 (d - t) (r.drop t)) := Lib.hid (fun w' hb => by
    have := (HR.out.next hb).rest t (by omega)
    rw [hB2] at this
    exact this)
  have htt : (t : Int) ≤ ((l.length - n : Nat) : Int) := by omega
  have hd2 : t ≤ d := by omega
  have hnl : l.length - n - t ≤ 4096 := by omega
  have hn4 : n ≤ 4096 := by omega
  have ht4 : t ≤ 4096 := by omega
  clear hrl hml
  go_wp2_with fail
  have hwq : IntKind.i64.wrap ((i : Int) + (n : Int)) = (q : Int) := by rw [← Int.natCast_add, HQ.out]; exact IntWalk.i64_in _ (by omega)
  have z0 : (0 : Int) ≤ (i : Int) := by omega
  have z1 : (i : Int) ≤ (q : Int) := by omega
  have z2 : (0 : Int) ≤ (t : Int) := by omega
  have z3 : (q : Int) ≤ (c : Int) := by omega
  have z4 : (t : Int) ≤ (d : Int) := by omega
  have hqi : q - i = n := by omega
  clear hq
  go_region_law (first
      | (refine step_app rfl (.tmp 32) (.tmp 35) rfl w1.heap.size _ [] rfl B d (r.take t) t rfl HTI.out.symm HO.out HS0.out (by rw [HTI.out]; simp; omega) HB1.out.size ?_
         intro v1 w2 H1 F1)
      | (refine step_app rfl (.tmp 36) (.tmp 42) rfl w1.heap.size v1 ([] ++ r.take t) rfl A2 (c - i) ((l.drop i).take n) n rfl HML.out.symm H1.out (HP.out _ (HB.out.trans ((HB1.out.trans F1.out).mono HB.out.size))) (by simp only [List.nil_append]; rw [HTI.out, HML.out]; omega) (HB1.out.trans F1.out).size ?_
         intro v2 w3 H2 F2))
  have HC2 := Lib.hid ((HB1.out.trans F1.out).trans F2.out)
  go_wp2_with (
       at_builtin
       refine wp_app rfl (.tmp 44) (.tmp 47) rfl w1.heap.size v2 (([] ++ r.take t) ++ (l.drop i).take n) rfl B2 (d - t) (r.drop t) (l.length - n - t) rfl HDI.out.symm H2.out (HP2.out _ HC2.out) (by simp only [List.nil_append, List.length_append]; rw [HTI.out, HML.out, HDI.out]; omega) HC2.out.size ?_
       intro v3 w4 H3 F3 G3)
  go_ret2
  refine rowE_own (base := w1.heap.size) ?_ (HB.out.trans ((HC2.out.trans F3.out).mono HB.out.size))
  have h3 := H3.out
  rw [List.nil_append, List.append_assoc, ← HM.out] at h3
  exact h3
set_option maxHeartbeats 2000000 in
theorem refMv_any {w : World} {A : Option Addr} {c : Nat} {l : List Int} (h : SlI w A c l) (a m t : Int) (hl : l.length ≤ 4096) (ha : I64 a) (hm : I64 m) :
    Calls Try.prog 28 #[.slice A l.length c, .int .i64 a, .int .i64 m, .int .i64 t] w (RowE (movR l a m t) w) := by
  unfold movR
  by_cases h0 : a < 0 ∨ m < 0 ∨ (l.length : Int) < a ∨ (l.length : Int) - a < m
  · have K := refRem_any h a m hl ha hm
    have e : remR l a m = ([], 4) := by unfold remR; rw [if_pos h0]
    rw [e] at K
    rw [e, if_pos (.inl (by decide))]
    have K := Lib.hid K
    clear h h0 e ha hm
    go_enter Try.func28, Try.ntmps28
    go_wp2_with fail
    refine K.out.mono ?_
    intro e w1 h1
    obtain ⟨B, d, rfl, hs, hb⟩ := rowE_at h1 (show ([] : List Int).length = 0 from rfl)
    have HB := Lib.hid hb
    clear K hs hb h1
    go_wp2_with fail
    go_ret2
    exact rowE_err HB.out
  · have e : remR l a m = (remL l a.toNat m.toNat, 0) := by unfold remR; rw [if_neg h0]
    rw [e]
    obtain ⟨i, rfl⟩ : ∃ i : Nat, a = i := ⟨a.toNat, by omega⟩
    obtain ⟨n, rfl⟩ : ∃ i : Nat, m = i := ⟨m.toNat, by omega⟩
    rw [Int.toNat_natCast, Int.toNat_natCast]
    have hin : i + n ≤ l.length := by omega
    have hrl := remL_len hin
    by_cases h1 : t < 0 ∨ (l.length : Int) - n < t
    · rw [if_pos (.inr h1)]
      have K := Lib.hid (refRem_ok h i n hin hl)
      clear h h0 e
      go_enter Try.func28, Try.ntmps28
      go_wp2_with fail
      refine K.out.mono ?_
      intro e w1 h2
      obtain ⟨B, d, rfl, hs, hb⟩ := rowE_at h2 hrl
      have HB := Lib.hid hb
      clear K hs hb h2 hrl
      rcases (show t < 0 ∨ (¬ (t < 0) ∧ ((l.length - n : Nat) : Int) < t) by omega) with h2 | ⟨h2, h3⟩
      all_goals
        clear h1
        go_wp2_with fail
        go_ret2
        exact rowE_err HB.out
    · rw [if_neg (by simp; omega)]
      obtain ⟨k, rfl⟩ : ∃ i : Nat, t = i := ⟨t.toNat, by omega⟩
      rw [Int.toNat_natCast]
      exact refMv_ok h i n k hin hl (by omega)
end Go.Proofs.Ytakgnpmfnechhaa
