/- The walks of the buffer's methods. -/
import Derived.Test.YtecoobeddjfegaaPartS
import Derived.Test.YtecoobeddjfegaaHas
namespace Go.Proofs.Ytecoobeddjfegaa
open Go.RowKit

section
variable {w : World} {B U b n g : Nat} {xs : List Value}
theorem sinsert_nil {i : Int} {v : Value} : Calls Try.prog 18 #[.pointer none, .int .i64 i, v] w fun r w' => r = .returned (.int .i64 2) ∧ w' = w := by
  go_enter Try.func18, Try.ntmps18
  go_wp2
  go_ret
  exact ⟨rfl, rfl⟩
theorem shlen (h : Has 9 53 B U w b n xs g) : Calls Try.prog 30 #[.pointer (some ⟨b, 0, none⟩)] w fun r w' => r = .returned (.int .i64 n) ∧ ∃ k, w' = w.drewN k := by
  obtain ⟨_, _, _, A, S, N, e, hB, _⟩ := h
  exact slen_any hB
theorem shgap (h : Has 9 53 B U w b n xs g) : Calls Try.prog 20 #[.pointer (some ⟨b, 0, none⟩)] w fun r w' => r = .returned (.int .i64 g) ∧ w' = w := by
  obtain ⟨_, _, _, A, S, N, e, hB, _⟩ := h
  exact sgap_any hB
theorem shlist (h : Has 9 53 B U w b n xs g) : Calls Try.prog 32 #[.pointer (some ⟨b, 0, none⟩)] w (sGot w xs n) := by
  obtain ⟨_, _, _, A, S, N, e, hB, _⟩ := h
  exact slist_any hB
theorem sinsert_bad (h : Has 9 53 B U w b n xs g) (i : Int) (v : Value) (hi : i < 0 ∨ (n : Int) < i) :
    Calls Try.prog 18 #[.pointer (some ⟨b, 0, none⟩), .int .i64 i, v] w fun r w' => r = .returned (.int .i64 4) ∧ ∃ k, w' = w.drewN k := by
  have HL := Lib.hid (shlen h)
  clear h
  rcases hi with hi | hi
  · go_enter Try.func18, Try.ntmps18
    go_wp2_with fail
    go_ret
    exact ⟨rfl, 0, rfl⟩
  · have hp : ¬ i < 0 := by omega
    go_enter Try.func18, Try.ntmps18
    go_wp2_with fail
    refine HL.out.mono ?_
    rintro r w' ⟨rfl, m, rfl⟩
    go_wp2_with fail
    go_ret
    exact ⟨rfl, m, rfl⟩
theorem sinsert_long (h : Has 9 53 B U w b n xs g) (i : Nat) (hi : i ≤ n) (C : Option Addr) (m c : Nat) (hm : 4096 < n + m) :
    Calls Try.prog 18 #[.pointer (some ⟨b, 0, none⟩), .int .i64 i, .slice C m c] w fun r w' => r = .returned (.int .i64 3) ∧ ∃ k, w' = w.drewN k := by
  have HL := Lib.hid (shlen h)
  have HL2 : Hid (∀ k, Calls Try.prog 30 #[.pointer (some ⟨b, 0, none⟩)] (w.drewN k) fun r w' => r = .returned (.int .i64 n) ∧ ∃ j, w' = (w.drewN k).drewN j) := Lib.hid (fun k => shlen (h.drewN k))
  have hn := h.max.1
  have d1 : decide ((i : Int) < 0) = false := by simp
  have d2 : decide (n < i) = false := by simp; omega
  have d3 : (4096 : Int) - n < m := by omega
  clear h
  go_enter Try.func18, Try.ntmps18
  go_wp2_with fail
  refine HL.out.mono ?_
  rintro r w' ⟨rfl, k, rfl⟩
  go_wp2_with fail
  refine (HL2.out k).mono ?_
  rintro r w' ⟨rfl, j, rfl⟩
  go_wp2_with fail
  go_ret
  exact ⟨rfl, k + j, rfl⟩
set_option maxHeartbeats 1000000 in
theorem sinsert_ok (h : Has 9 53 B U w b n xs g) (i : Nat) (hi : i ≤ n) {C : Option Addr} {m c : Nat} {ys : List Value} (hm : ys.length = m) (hnm : n + m ≤ 4096)
    (hy : RdV w w.heap.size C ys) (hsep : ∀ a o, C = some ⟨a, o, none⟩ → 0 < m → a < B ∨ U ≤ a) (h1y : ∀ v ∈ ys, v.oneCell' = true) :
    Calls Try.prog 18 #[.pointer (some ⟨b, 0, none⟩), .int .i64 i, .slice C m c] w fun r w' => r = .returned (.int .i64 0) ∧
      Has 9 53 B w'.heap.size w' b (n + m) (xs.take i ++ (ys ++ xs.drop i)) (if m = 0 then g else i + m) ∧ Below B w w' := by
  have HL := Lib.hid (shlen h)
  have HL2 : Hid (∀ k, Calls Try.prog 30 #[.pointer (some ⟨b, 0, none⟩)] (w.drewN k) fun r w' => r = .returned (.int .i64 n) ∧ ∃ j, w' = (w.drewN k).drewN j) := Lib.hid (fun k => shlen (h.drewN k))
  have hn := h.max.1
  have d1 : decide ((i : Int) < 0) = false := by simp
  have d2 : decide (n < i) = false := by simp; omega
  have d3 : decide ((4096 : Int) - n < m) = false := by simp; omega
  have HP : Hid (∀ k, Calls Try.prog 31 #[.pointer (some ⟨b, 0, none⟩), .int .i64 i, .slice C m c] (w.drewN k) fun r w' => r = .returned (.tuple #[]) ∧
      Has 9 53 B w'.heap.size w' b (n + m) (xs.take i ++ (ys ++ xs.drop i)) (if m = 0 then g else i + m) ∧ Below B w w') := Lib.hid (fun k => by
    rcases Nat.eq_zero_or_pos m with h0 | h0
    · subst h0
      obtain rfl : ys = [] := List.eq_nil_of_length_eq_zero hm
      refine (sput_none i C c).mono ?_
      rintro r w' ⟨rfl, rfl⟩
      refine ⟨rfl, ?_, below_drewN (Below.refl _ _) k⟩
      rw [if_pos rfl, List.nil_append, List.take_append_drop]
      exact (h.drewN k).now
    · have hB0 := h.lo.2
      obtain ⟨hb, hbU, hU, A, S, N, e, hBf, hS, hSU⟩ := h
      refine (sput_any (hBf.drewN k) i hi hm h0 hnm hy (fun a o e => ⟨by have := hsep a o e h0; omega, by have := hsep a o e h0; omega⟩) h1y).mono ?_
      rintro r w' ⟨rfl, ⟨A', S', M, f, hb', hS'⟩, hfr⟩
      have hsz : w.heap.size ≤ w'.heap.size := hfr.size
      have hM : 0 < M := by have := hb'.s1; have := hb'.s2; have := hb'.ge; have := hb'.len; omega
      have hlt := hb'.lt hM
      refine ⟨rfl, ⟨hb, by omega, Nat.le_refl _, A', S', M, f, by rw [if_neg (by omega)]; exact hb', ?_, hlt⟩, (((Fr.refl w b S).drewN k).trans hfr).below hb hS hB0⟩
      rcases hS' with e | e
      · omega
      · exact Nat.le_trans hB0 e)
  generalize (if m = 0 then g else i + m) = g' at *
  clear h hsep hy hm
  go_enter Try.func18, Try.ntmps18
  go_wp2_with fail
  refine HL.out.mono ?_
  rintro r w' ⟨rfl, k, rfl⟩
  go_wp2_with fail
  refine (HL2.out k).mono ?_
  rintro r w' ⟨rfl, j, rfl⟩
  go_wp2_with fail
  refine (HP.out (k + j)).mono ?_
  rintro r w' ⟨rfl, hh, hbl⟩
  have HH := Lib.hid hh
  have HBL := Lib.hid hbl
  clear hh hbl
  go_wp2_with fail
  go_ret
  exact ⟨rfl, HH.out, HBL.out⟩
end
end Go.Proofs.Ytecoobeddjfegaa
