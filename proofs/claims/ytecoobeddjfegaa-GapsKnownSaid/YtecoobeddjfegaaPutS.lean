/- The walk of put. -/
import Derived.Test.YtecoobeddjfegaaGrowzS
import Derived.Test.YtecoobeddjfegaaRdV
import Derived.Deep.RegionLaw
namespace Go.Proofs.Ytecoobeddjfegaa
open Go.RowKit

theorem sput_none {w : World} {p : Value} (i : Int) (C : Option Addr) (c : Nat) :
    Calls Try.prog 31 #[p, .int .i64 i, .slice C 0 c] w fun q w' => q = .returned (.tuple #[]) ∧ w' = w := by
  go_enter Try.func31, Try.ntmps31
  go_wp2_with fail
  refine bodyPost_ret (results_none rfl _ _ _) rfl ?_
  exact ⟨rfl, rfl⟩
set_option maxHeartbeats 2000000 in
theorem sput_any {w : World} {b S N g e n m c : Nat} {A C : Option Addr} {xs ys : List Value} (h : Buf 9 53 w b A S N g e n xs) (i : Nat) (hi : i ≤ n) (hm : ys.length = m) (hm0 : 0 < m) (hnm : n + m ≤ 4096)
    (hy : RdV w w.heap.size C ys) (hsep : ∀ a o, C = some ⟨a, o, none⟩ → a ≠ b ∧ a ≠ S) (h1y : ∀ v ∈ ys, v.oneCell' = true) :
    Calls Try.prog 31 #[.pointer (some ⟨b, 0, none⟩), .int .i64 i, .slice C m c] w fun q w' => q = .returned (.tuple #[]) ∧
      (∃ A' S' M f, Buf 9 53 w' b A' S' M (i + m) f (n + m) (xs.take i ++ (ys ++ xs.drop i)) ∧ (S' = S ∨ w.heap.size ≤ S')) ∧ Fr w w' b S := by
  have hb0 : ((m : Int) == 0) = false := by simp; omega
  have HG := Lib.hid (sgrow_any h m hm0 hnm)
  obtain ⟨a, o, rfl, ha, hz⟩ := hy 0 (by omega)
  have hs := hsep a o rfl
  have HSEP := Lib.hid hs
  have HA := Lib.hid ha
  have HY := Lib.hid hy
  have HM := Lib.hid hm
  clear h hy hsep hs hz hm ha
  go_enter Try.func31, Try.ntmps31
  go_wp2_with fail
  refine HG.out.mono ?_
  rintro r w1 ⟨rfl, ⟨A1, S1, M, f, hb1, hf1, hS1⟩, hfr1⟩
  have HFR1 := Lib.hid hfr1
  have HS1 := Lib.hid hS1
  have hsh := Lib.hid (sshift_any hb1 i hi (by have := hb1.eN; omega))
  have u1 : i + m ≤ i + (f - g) := by omega
  have u2 : i + (f - g) ≤ M := by have := hb1.s1; have := hb1.s2; have := hb1.ge; omega
  have u3 := hb1.max
  clear hb1 hfr1 hS1 HG
  go_wp2_with fail
  refine hsh.out.mono ?_
  rintro r w2 ⟨rfl, hb2, hfr2⟩
  obtain ⟨p, hp⟩ : ∃ p, p = i + (f - g) := ⟨_, rfl⟩
  rw [← hp] at hb2 u1 u2
  obtain ⟨hAA, vals, hrow, hlay⟩ := hb2.row (by omega)
  subst hAA
  have HB2 := Lib.hid hb2
  have HROW := Lib.hid hrow
  have HLAY := Lib.hid hlay
  have HFR2 : Hid (Fr w w2 b S) := Lib.hid (HFR1.out.trans2 hfr2 HS1.out)
  have HY2 : Hid (∀ j v, ys[j]? = some v → w2.cell? ((⟨a, o, none⟩ : Addr).add j) = some v) := Lib.hid (HY.out.cells fun k _ => World.cell?_of_block (HFR2.out.block a HA.out HSEP.out.1 HSEP.out.2))
  have c0 := hb2.c0
  have c1 := hb2.c1
  have f1 := hb2.fz 1
  have n1 : ¬ M = i := by omega
  have n2 : i ≤ M := by omega
  clear hb2 hrow hlay hfr2 hp hsh HFR1
  obtain ⟨z, hz⟩ : ∃ z : Nat, z = i + m := ⟨_, rfl⟩
  have HZ := Lib.hid hz
  have hw : IntKind.i64.wrap ((i : Int) + (ys.length : Int)) = (z : Int) := by
    rw [HM.out]
    exact (IntWalk.i64_in _ (by omega)).trans (by omega)
  clear hz
  go_wp2_with fail
  go_region_law (refine step_copy rfl (.tmp 25) (.tmp 26) 44 44 rfl 9 Try.underlying44 Try.one9 _ _ _ _ _ _ rfl rfl S1 i vals 9 HROW.out ys (by rw [HM.out]; show _ = min _ _; omega) (fun _ => ⟨rfl, _, rfl, HY2.out⟩) (by rw [HM.out, HLAY.out.len]; omega) h1y ?_; intro w3 HR3 HF3; have c3 : w3.cell? ⟨b, 1, none⟩ = some (.int .i64 (i : Int)) := (World.cell?_of_block ((HF3.out S1).block b (lt_of_block HB2.out.box) (HB2.out.ne (by omega)) (HB2.out.ne (by omega)))).trans c1; have f3 : w3.frozen? ⟨b, 1, none⟩ = false := by simp [World.frozen?, ((HF3.out S1).block b (lt_of_block HB2.out.box) (HB2.out.ne (by omega)) (HB2.out.ne (by omega))).trans HB2.out.box])
  all_goals
    go_end0
    have hl := HLAY.out.put HB2.out.len (by rw [HM.out]; omega)
    have hB := HB2.out.put z (by rw [HM.out]; exact HZ.out.symm) (by have := HZ.out; omega) h1y rfl (set3_1 (((HF3.out S1).block b (lt_of_block HB2.out.box) (HB2.out.ne (by omega)) (HB2.out.ne (by omega))).trans HB2.out.box)) ((Below.heap_setCell w3 ⟨b, 1, none⟩ (.int .i64 z) S1 (Ne.symm (HB2.out.ne (by omega)))).trans HR3.out) hl
    rw [HM.out] at hB
    rw [← HZ.out]
    exact ⟨rfl, ⟨_, S1, M, p, hB, HS1.out⟩, ((HFR2.out.drewN 1).trans2 (HF3.out b) HS1.out).setCell (.inl rfl) _⟩
end Go.Proofs.Ytecoobeddjfegaa
