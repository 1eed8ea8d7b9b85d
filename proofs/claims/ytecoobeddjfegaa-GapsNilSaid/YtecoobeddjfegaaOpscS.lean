/- The walks of Move, At and New. -/
import Derived.Test.YtecoobeddjfegaaOpsbS
namespace Go.Proofs.Ytecoobeddjfegaa
open Go.RowKit

section
variable {w : World} {B U b n g : Nat} {xs : List Value}
set_option maxHeartbeats 1000000 in
theorem smove_ok (h : Has 9 53 B U w b n xs g) (i k t : Nat) (hik : i + k ≤ n) (ht : t ≤ n - k) :
    Calls Try.prog 22 #[.pointer (some ⟨b, 0, none⟩), .int .i64 i, .int .i64 k, .int .i64 t] w fun r w' => r = .returned (.int .i64 0) ∧
      Has 9 53 B w'.heap.size w' b n (moved xs i k t) (if k = 0 then g else t + k) ∧ Below B w w' := by
  have hn := h.max.1
  have hl := h.len
  have hB0 := h.lo.2
  have hc := shcheck h (i : Int) (k : Int) (by omega)
  rw [if_pos (by omega)] at hc
  have HC := Lib.hid hc
  have HL := Lib.hid (fun m => shlen (h.drewN m))
  have HP := Lib.hid (fun m => shpart (h.drewN m) i k hik)
  have d1 : decide ((t : Int) < 0) = false := by simp
  have d2 : decide ((n : Int) - k < t) = false := by simp; omega
  have HH := Lib.hid h
  obtain ⟨ys, hys⟩ : ∃ ys, ys = (xs.drop i).take k := ⟨_, rfl⟩
  have hyl : ys.length = k := by rw [hys]; simp; omega
  have HYL := Lib.hid hyl
  have HO : Hid (∀ v ∈ ys, v.oneCell' = true) := Lib.hid (by
    rw [hys]
    intro v hv
    exact h.one v (List.mem_of_mem_drop (List.mem_of_mem_take hv)))
  rw [← hys] at HP
  have HYS := Lib.hid hys
  have HB0 := Lib.hid hB0
  obtain ⟨g', hg'⟩ : ∃ g', (if k = 0 then g else t + k) = g' := ⟨_, rfl⟩
  rw [hg']
  have HG := Lib.hid hg'
  clear hc h hys hyl hl hB0 hg'
  go_enter Try.func22, Try.ntmps22
  go_wp2_with fail
  refine HC.out.mono ?_
  rintro r w' ⟨rfl, m, rfl⟩
  go_wp2_with fail
  refine (HL.out m).mono ?_
  rintro r w' ⟨rfl, j, rfl⟩
  go_wp2_with fail
  refine (HP.out (m + j)).mono ?_
  rintro r w1 ⟨G, rfl, hG, hr, hb⟩
  have hbw : Below w.heap.size w w1 := ⟨hb.os, hb.tape, hb.output, hb.size, hb.block⟩
  have hGw : w.heap.size ≤ G := hG
  have HH1 := Lib.hid (HH.out.below hbw)
  have HR1 := Lib.hid hr
  have HG1 : Hid (U ≤ G) := Lib.hid (by have := HH.out.2.2.1; omega)
  have HB1 : Hid (Below B w w1) := Lib.hid (hbw.mono HB0.out)
  have HT := Lib.hid (shtake HH1.out i k hik)
  clear hG hr hb hbw hGw HP HL HC
  go_wp2_with fail
  refine HT.out.mono ?_
  rintro r w2 ⟨rfl, hh2, hb2, hk2⟩
  have HR2 := Lib.hid ((hk2 G HG1.out (lt_of_block HR1.out)).trans HR1.out)
  have HB2 := Lib.hid (HB1.out.trans hb2)
  have hp := shput hh2 t ht HYL.out (by omega) (RdV.row (T := 9) HR2.out) (fun a o e _ => by injection e with e; injection e with e1 e2; have := HG1.out; omega) HO.out (c := k)
  have hgg : (if k = 0 then (if k = 0 then g else i) else t + k) = g' := by
    rw [← HG.out]
    by_cases hk : k = 0
    · rw [if_pos hk, if_pos hk, if_pos hk]
    · rw [if_neg hk, if_neg hk]
  rw [hgg, show n - k + k = n from by omega] at hp
  have HP2 := Lib.hid hp
  clear hh2 hb2 hk2 hp hgg HT
  go_wp2_with fail
  refine HP2.out.mono ?_
  rintro r w3 ⟨rfl, hh3, hb3⟩
  have HH3 := Lib.hid hh3
  have HB3 := Lib.hid (HB2.out.trans hb3)
  clear hh3 hb3
  go_wp2_with fail
  go_ret
  have := HH3.out
  rw [HYS.out] at this
  exact ⟨rfl, this, HB3.out⟩

theorem splace_nil {i : Int} : Calls Try.prog 36 #[.pointer none, .int .i64 i] w fun r w' => r = .returned (.tuple #[.int .i64 0, .int .i64 2]) ∧ w' = w := by
  go_enter Try.func36, Try.ntmps36
  go_wp2
  go_ret2
  exact ⟨rfl, rfl⟩
theorem splace_bad (h : Has 9 53 B U w b n xs g) (i : Int) (hi : i < 0 ∨ (n : Int) ≤ i) :
    Calls Try.prog 36 #[.pointer (some ⟨b, 0, none⟩), .int .i64 i] w fun r w' => r = .returned (.tuple #[.int .i64 0, .int .i64 4]) ∧ ∃ m, w' = w.drewN m := by
  have HL := Lib.hid (shlen h)
  clear h
  rcases hi with hi | hi
  · go_enter Try.func36, Try.ntmps36
    go_wp2_with fail
    go_ret2
    exact ⟨rfl, 0, rfl⟩
  · have hp : ¬ i < 0 := by omega
    go_enter Try.func36, Try.ntmps36
    go_wp2_with fail
    refine HL.out.mono ?_
    rintro r w' ⟨rfl, m, rfl⟩
    go_wp2_with fail
    go_ret2
    exact ⟨rfl, m, rfl⟩
theorem splace_ok {S N e : Nat} {A : Option Addr} (h : Buf 9 53 w b A S N g e n xs) (i : Nat) (hi : i < n) :
    Calls Try.prog 36 #[.pointer (some ⟨b, 0, none⟩), .int .i64 i] w fun r w' => r = .returned (.tuple #[.int .i64 ((if i < g then i else i + (e - g) : Nat) : Int), .int .i64 0]) ∧ ∃ m, w' = w.drewN m := by
  have HL := Lib.hid (slen_any h)
  have HR := Lib.hid (fun m => sroom_any (h.drewN m))
  have h1 := h.ge
  have h2 := h.eN
  have h3 := h.max
  have h4 := h.gn
  have s1 := h.s1
  have s2 := h.s2
  have d1 : decide ((i : Int) < 0) = false := by simp
  have d2 : decide (n ≤ i) = false := by simp; omega
  have c1 := h.c1
  clear h
  by_cases hg : i < g
  · rw [if_pos hg]
    go_enter Try.func36, Try.ntmps36
    go_wp2_with fail
    refine HL.out.mono ?_
    rintro r w' ⟨rfl, m, rfl⟩
    go_wp2_with fail
    go_ret2
    exact ⟨rfl, m, rfl⟩
  · rw [if_neg hg]
    have d3 : decide (i < g) = false := by simp; omega
    go_enter Try.func36, Try.ntmps36
    go_wp2_with fail
    refine HL.out.mono ?_
    rintro r w' ⟨rfl, m, rfl⟩
    go_wp2_with fail
    refine (HR.out m).mono ?_
    rintro r w' ⟨rfl, j, rfl⟩
    go_wp2_with fail
    go_ret2
    refine ⟨?_, m + j, rfl⟩
    have e1 : (i : Int) + ((e : Int) - g) = ((i + (e - g) : Nat) : Int) := by omega
    simp only [Array.getD]
    simp [e1]
end
end Go.Proofs.Ytecoobeddjfegaa
