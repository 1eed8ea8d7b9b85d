/- The walks of At and New. -/
import Derived.Test.YtecoobeddjfegaaOpscI
namespace Go.Proofs.Ytecoobeddjfegaa
open Go.RowKit

section
variable {w : World} {B U b n g : Nat} {xs : List Value}
theorem iat_nil {i : Int} : Calls Try.prog 14 #[.pointer none, .int .i64 i] w fun r w' => r = .returned (.tuple #[(.int .i64 0), .int .i64 2]) ∧ w' = w := by
  have hp := Lib.hid (iplace_nil (w := w) (i := i))
  go_enter Try.func14, Try.ntmps14
  go_wp2_with fail
  refine hp.out.mono ?_
  rintro r w' ⟨rfl, rfl⟩
  go_wp2_with fail
  go_ret2
  exact ⟨rfl, rfl⟩
theorem iat_bad (h : Has 3 39 B U w b n xs g) (i : Int) (hi : i < 0 ∨ (n : Int) ≤ i) :
    Calls Try.prog 14 #[.pointer (some ⟨b, 0, none⟩), .int .i64 i] w fun r w' => r = .returned (.tuple #[(.int .i64 0), .int .i64 4]) ∧ ∃ m, w' = w.drewN m := by
  have hp := Lib.hid (iplace_bad h i hi)
  clear h hi
  go_enter Try.func14, Try.ntmps14
  go_wp2_with fail
  refine hp.out.mono ?_
  rintro r w' ⟨rfl, m, rfl⟩
  go_wp2_with fail
  go_ret2
  exact ⟨rfl, m, rfl⟩
theorem iat_ok (h : Has 3 39 B U w b n xs g) (i : Nat) (hi : i < n) (v : Value) (hv : xs[i]? = some v) :
    Calls Try.prog 14 #[.pointer (some ⟨b, 0, none⟩), .int .i64 i] w fun r w' => r = .returned (.tuple #[v, .int .i64 0]) ∧ ∃ m, w' = w.drewN m := by
  obtain ⟨_, _, _, A, S, N, e, hB, _⟩ := h
  have s1 := hB.s1
  have s2 := hB.s2
  have h1 := hB.ge
  have h3 := hB.max
  obtain ⟨hA, vals, hrow, hlay⟩ := hB.row (by omega)
  subst hA
  have hp := iplace_ok hB i hi
  obtain ⟨q, hq, hqN, hqv⟩ : ∃ q, (if i < g then i else i + (e - g)) = q ∧ q < N ∧ vals[q]? = some v := by
    by_cases hg : i < g
    · refine ⟨i, by rw [if_pos hg], by omega, by rw [hlay.lo i hg, hv]⟩
    · refine ⟨i + (e - g), by rw [if_neg hg], by omega, by rw [hlay.hi i (by omega) hi, hv]⟩
  rw [hq] at hp
  have c0 := hB.c0
  have cq : w.cell? ⟨S, q, none⟩ = some v := by
    rw [cell_of_row w S q _ 3 (0, 0) hrow]
    simpa using hqv
  have HP := Lib.hid hp
  clear hB hrow hlay hp hq hv hqv s1 s2
  go_enter Try.func14, Try.ntmps14
  go_wp2_with fail
  refine HP.out.mono ?_
  rintro r w' ⟨rfl, m, rfl⟩
  go_wp2_with fail
  go_ret2
  exact ⟨rfl, m, rfl⟩
theorem inew_long (C : Option Addr) (m c : Nat) (hm : 4096 < m) :
    Calls Try.prog 8 #[.slice C m c] w fun r w' => r = .returned (.tuple #[.pointer none, .int .i64 3]) ∧ Below w.heap.size w w' := by
  have H : Hid (Has 3 39 w.heap.size (w.heap.size + 1) (w.alloc (.cells #[.slice none 0 0, .int .i64 0, .int .i64 0] 39)) w.heap.size 0 [] 0) := Lib.hid
    ⟨Nat.le_refl _, by omega, by simp, none, w.heap.size, 0, 0, ⟨heap_alloc_new w _, fun hN => absurd hN (by omega), fun _ => rfl, rfl, Nat.le_refl _, Nat.le_refl _, Nat.le_refl _, Nat.le_refl _, Nat.le_refl _, by omega, by simp, fun hN => absurd hN (by omega)⟩, Nat.le_refl _, by omega⟩
  have HI := Lib.hid (iinsert_long H.out 0 (Nat.le_refl _) C m c (by omega))
  have HB : Hid (Below w.heap.size w (w.alloc (.cells #[.slice none 0 0, .int .i64 0, .int .i64 0] 39))) := Lib.hid ((Below.refl _ _).alloc (Nat.le_refl _) _)
  go_enter Try.func8, Try.ntmps8
  go_wp2_with fail
  refine HI.out.mono ?_
  rintro r w' ⟨rfl, j, rfl⟩
  go_wp2_with fail
  go_ret2
  exact ⟨rfl, below_drewN HB.out j⟩
theorem inew_ok {C : Option Addr} {m c : Nat} {ys : List Value} (hm : ys.length = m) (hnm : m ≤ 4096) (hy : RdV w w.heap.size C ys) (h1y : ∀ v ∈ ys, v.oneCell' = true) :
    Calls Try.prog 8 #[.slice C m c] w fun r w' => (∃ b, r = .returned (.tuple #[.pointer (some ⟨b, 0, none⟩), .int .i64 0]) ∧ Has 3 39 w.heap.size w'.heap.size w' b m ys m) ∧ Below w.heap.size w w' := by
  have H : Hid (Has 3 39 w.heap.size (w.heap.size + 1) (w.alloc (.cells #[.slice none 0 0, .int .i64 0, .int .i64 0] 39)) w.heap.size 0 [] 0) := Lib.hid
    ⟨Nat.le_refl _, by omega, by simp, none, w.heap.size, 0, 0, ⟨heap_alloc_new w _, fun hN => absurd hN (by omega), fun _ => rfl, rfl, Nat.le_refl _, Nat.le_refl _, Nat.le_refl _, Nat.le_refl _, Nat.le_refl _, by omega, by simp, fun hN => absurd hN (by omega)⟩, Nat.le_refl _, by omega⟩
  have HB : Hid (Below w.heap.size w (w.alloc (.cells #[.slice none 0 0, .int .i64 0, .int .i64 0] 39))) := Lib.hid ((Below.refl _ _).alloc (Nat.le_refl _) _)
  have hi := iinsert_ok H.out 0 (Nat.le_refl _) (c := c) hm (by omega) (hy.next HB.out) (fun a o e h0 => .inl (by obtain ⟨a', o', e', hl, _⟩ := hy 0 (by omega); rw [e] at e'; injection e' with e'; injection e' with e1 e2; omega)) h1y
  have e1 : (if m = 0 then 0 else 0 + m) = m := by split <;> omega
  rw [e1, Nat.zero_add, List.take_nil, List.drop_nil, List.nil_append, List.append_nil] at hi
  have HI := Lib.hid hi
  clear hi hy e1 hm
  go_enter Try.func8, Try.ntmps8
  go_wp2_with fail
  refine HI.out.mono ?_
  rintro r w' ⟨rfl, hh, hb⟩
  have HH := Lib.hid hh
  have HB2 : Hid (Below w.heap.size w w') := Lib.hid (HB.out.trans hb)
  clear hh hb
  go_wp2_with fail
  go_ret2
  exact ⟨⟨_, rfl, HH.out⟩, HB2.out⟩
end
end Go.Proofs.Ytecoobeddjfegaa
