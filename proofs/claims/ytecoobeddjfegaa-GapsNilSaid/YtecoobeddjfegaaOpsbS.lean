/- The walks of Remove, Move, At and New. -/
import Derived.Test.YtecoobeddjfegaaOpsS
namespace Go.Proofs.Ytecoobeddjfegaa
open Go.RowKit

section
variable {w : World} {B U b n g : Nat} {xs : List Value}
theorem shcheck (h : Has 9 53 B U w b n xs g) (i k : Int) (hi : i ≤ 9223372036854775807) :
    Calls Try.prog 33 #[.pointer (some ⟨b, 0, none⟩), .int .i64 i, .int .i64 k] w fun r w' => r = .returned (.int .i64 (if 0 ≤ i ∧ 0 ≤ k ∧ i + k ≤ n then 0 else 4)) ∧ ∃ m, w' = w.drewN m := by
  obtain ⟨_, _, _, A, S, N, e, hB, _⟩ := h
  exact scheck_any hB i k hi
theorem shpart (h : Has 9 53 B U w b n xs g) (i k : Nat) (hik : i + k ≤ n) :
    Calls Try.prog 35 #[.pointer (some ⟨b, 0, none⟩), .int .i64 i, .int .i64 k] w (sGot w ((xs.drop i).take k) k) := by
  obtain ⟨_, _, _, A, S, N, e, hB, _⟩ := h
  exact spart_any hB i k hik
theorem shtake (h : Has 9 53 B U w b n xs g) (i k : Nat) (hik : i + k ≤ n) :
    Calls Try.prog 34 #[.pointer (some ⟨b, 0, none⟩), .int .i64 i, .int .i64 k] w fun r w' => r = .returned (.tuple #[]) ∧
      Has 9 53 B U w' b (n - k) (xs.take i ++ xs.drop (i + k)) (if k = 0 then g else i) ∧ Below B w w' ∧ ∀ j, U ≤ j → j < w.heap.size → w'.heap[j]? = w.heap[j]? := by
  rcases Nat.eq_zero_or_pos k with h0 | h0
  · subst h0
    refine (stake_none (p := .pointer (some ⟨b, 0, none⟩)) i).mono ?_
    rintro r w' ⟨rfl, rfl⟩
    refine ⟨rfl, ?_, Below.refl _ _, fun _ _ _ => rfl⟩
    rw [if_pos rfl, Nat.add_zero, List.take_append_drop]
    exact h
  · have hB0 := h.lo.2
    obtain ⟨h1, h2, h3, A, S, N, e, hB, h4, h5⟩ := h
    refine (stake_any hB i k h0 hik).mono ?_
    rintro r w' ⟨rfl, ⟨z, hb⟩, hfr⟩
    rw [if_neg (by omega)]
    exact ⟨rfl, ⟨h1, h2, Nat.le_trans h3 hfr.size, A, S, N, z, hb, h4, h5⟩, hfr.below h1 h4 hB0, fun j hj hl => hfr.block j hl (by omega) (by omega)⟩
theorem sremove_nil {i k : Int} : Calls Try.prog 21 #[.pointer none, .int .i64 i, .int .i64 k] w fun r w' => r = .returned (.int .i64 2) ∧ w' = w := by
  have hc := Lib.hid (scheck_nil (w := w) i k)
  go_enter Try.func21, Try.ntmps21
  go_wp2_with fail
  refine hc.out.mono ?_
  rintro r w' ⟨rfl, rfl⟩
  go_wp2_with fail
  go_ret
  exact ⟨rfl, rfl⟩
theorem sremove_bad (h : Has 9 53 B U w b n xs g) (i k : Int) (hi : i ≤ 9223372036854775807) (hbad : ¬ (0 ≤ i ∧ 0 ≤ k ∧ i + k ≤ n)) :
    Calls Try.prog 21 #[.pointer (some ⟨b, 0, none⟩), .int .i64 i, .int .i64 k] w fun r w' => r = .returned (.int .i64 4) ∧ ∃ m, w' = w.drewN m := by
  have hc := shcheck h i k hi
  rw [if_neg hbad] at hc
  have HC := Lib.hid hc
  clear hc h hbad hi
  go_enter Try.func21, Try.ntmps21
  go_wp2_with fail
  refine HC.out.mono ?_
  rintro r w' ⟨rfl, m, rfl⟩
  go_wp2_with fail
  go_ret
  exact ⟨rfl, m, rfl⟩
theorem sremove_ok (h : Has 9 53 B U w b n xs g) (i k : Nat) (hik : i + k ≤ n) :
    Calls Try.prog 21 #[.pointer (some ⟨b, 0, none⟩), .int .i64 i, .int .i64 k] w fun r w' => r = .returned (.int .i64 0) ∧
      Has 9 53 B U w' b (n - k) (xs.take i ++ xs.drop (i + k)) (if k = 0 then g else i) ∧ Below B w w' := by
  have hn := h.max.1
  have hc := shcheck h (i : Int) (k : Int) (by omega)
  rw [if_pos (by omega)] at hc
  have HC := Lib.hid hc
  have HT := Lib.hid (fun m => shtake (h.drewN m) i k hik)
  generalize (if k = 0 then g else i) = g' at *
  clear hc h hik
  go_enter Try.func21, Try.ntmps21
  go_wp2_with fail
  refine HC.out.mono ?_
  rintro r w' ⟨rfl, m, rfl⟩
  go_wp2_with fail
  refine (HT.out m).mono ?_
  rintro r w' ⟨rfl, hh, hb, _⟩
  have HH := Lib.hid hh
  have HB : Hid (Below B w w') := Lib.hid ⟨hb.os, hb.tape, hb.output, hb.size, hb.block⟩
  clear hh hb
  go_wp2_with fail
  go_ret
  exact ⟨rfl, HH.out, HB.out⟩
theorem smove_nil {i k t : Int} : Calls Try.prog 22 #[.pointer none, .int .i64 i, .int .i64 k, .int .i64 t] w fun r w' => r = .returned (.int .i64 2) ∧ w' = w := by
  have hc := Lib.hid (scheck_nil (w := w) i k)
  go_enter Try.func22, Try.ntmps22
  go_wp2_with fail
  refine hc.out.mono ?_
  rintro r w' ⟨rfl, rfl⟩
  go_wp2_with fail
  go_ret
  exact ⟨rfl, rfl⟩
theorem smove_out (h : Has 9 53 B U w b n xs g) (i k : Nat) (t : Int) (hik : i + k ≤ n) (ht : t < 0 ∨ (n : Int) - k < t) :
    Calls Try.prog 22 #[.pointer (some ⟨b, 0, none⟩), .int .i64 i, .int .i64 k, .int .i64 t] w fun r w' => r = .returned (.int .i64 4) ∧ ∃ m, w' = w.drewN m := by
  have hn := h.max.1
  have hc := shcheck h (i : Int) (k : Int) (by omega)
  rw [if_pos (by omega)] at hc
  have HC := Lib.hid hc
  have HL := Lib.hid (fun m => shlen (h.drewN m))
  clear hc h
  rcases ht with ht | ht
  · go_enter Try.func22, Try.ntmps22
    go_wp2_with fail
    refine HC.out.mono ?_
    rintro r w' ⟨rfl, m, rfl⟩
    go_wp2_with fail
    go_ret
    exact ⟨rfl, m, rfl⟩
  · have d1 : decide (t < 0) = false := by simp; omega
    go_enter Try.func22, Try.ntmps22
    go_wp2_with fail
    refine HC.out.mono ?_
    rintro r w' ⟨rfl, m, rfl⟩
    go_wp2_with fail
    refine (HL.out m).mono ?_
    rintro r w' ⟨rfl, j, rfl⟩
    go_wp2_with fail
    go_ret
    exact ⟨rfl, m + j, rfl⟩
theorem shput (h : Has 9 53 B U w b n xs g) (i : Nat) (hi : i ≤ n) {C : Option Addr} {m c : Nat} {ys : List Value} (hm : ys.length = m) (hnm : n + m ≤ 4096)
    (hy : RdV w w.heap.size C ys) (hsep : ∀ a o, C = some ⟨a, o, none⟩ → 0 < m → a < B ∨ U ≤ a) (h1y : ∀ v ∈ ys, v.oneCell' = true) :
    Calls Try.prog 31 #[.pointer (some ⟨b, 0, none⟩), .int .i64 i, .slice C m c] w fun r w' => r = .returned (.tuple #[]) ∧
      Has 9 53 B w'.heap.size w' b (n + m) (xs.take i ++ (ys ++ xs.drop i)) (if m = 0 then g else i + m) ∧ Below B w w' := by
  rcases Nat.eq_zero_or_pos m with h0 | h0
  · subst h0
    obtain rfl : ys = [] := List.eq_nil_of_length_eq_zero hm
    refine (sput_none (p := .pointer (some ⟨b, 0, none⟩)) i C c).mono ?_
    rintro r w' ⟨rfl, rfl⟩
    refine ⟨rfl, ?_, Below.refl _ _⟩
    rw [if_pos rfl, List.nil_append, List.take_append_drop]
    exact h.now
  · have hB0 := h.lo.2
    obtain ⟨hb, hbU, hU, A, S, N, e, hBf, hS, hSU⟩ := h
    refine (sput_any hBf i hi hm h0 hnm hy (fun a o e => ⟨by have := hsep a o e h0; omega, by have := hsep a o e h0; omega⟩) h1y).mono ?_
    rintro r w' ⟨rfl, ⟨A', S', M, f, hb', hS'⟩, hfr⟩
    have hsz : w.heap.size ≤ w'.heap.size := hfr.size
    have hM : 0 < M := by have := hb'.s1; have := hb'.s2; have := hb'.ge; have := hb'.len; omega
    have hlt := hb'.lt hM
    refine ⟨rfl, ⟨hb, by omega, Nat.le_refl _, A', S', M, f, by rw [if_neg (by omega)]; exact hb', ?_, hlt⟩, hfr.below hb hS hB0⟩
    rcases hS' with e | e
    · omega
    · exact Nat.le_trans hB0 e
end
end Go.Proofs.Ytecoobeddjfegaa
