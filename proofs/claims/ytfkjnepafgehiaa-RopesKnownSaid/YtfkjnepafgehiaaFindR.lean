/- The walk of Find. -/
import Derived.Test.YtfkjnepafgehiaaReadS
namespace Go.Proofs.Ytfkjnepafgehiaa
open Go.RowKit

/-- where Find is: in the tree u, i0 sizes behind the start, with the rest x; the place is i, with the rest v -/
structure FindI (i : Nat) (v : Int) (u : T) (i0 : Nat) (x : Int) (j : Nat) : Prop where
  pl : Place u.list x j
  at_ : i = i0 + j
  rest : v = x - pre u.list j
  ok : Ok u.list
  lo : 0 ≤ x
  hi : x ≤ 4611686018427387904
  lim : i0 + u.count ≤ 4096
theorem pre_count (t : T) : pre t.list t.count = t.total := by rw [← T.len, pre, List.take_length, T.sum]
theorem pre_le {l : List Int} (h : ∀ x ∈ l, 0 ≤ x) {a b : Nat} (hab : a ≤ b) : pre l a ≤ pre l b := pre_mono (fun _ hk => h _ (List.getElem_mem hk)) hab
theorem FindI.left {i i0 j : Nat} {v x s : Int} {l r : T} (h : FindI i v (.node l s r) i0 x j) (hx : x < l.total) : FindI i v l i0 x j := by
  obtain ⟨a, b, c, d, e, f⟩ := T.parts h.ok
  have hj : j < l.count := by
    rcases Nat.lt_or_ge j l.count with h' | h'
    · exact h'
    · have h1 := pre_le h.ok.nn (a := l.count) (b := j) h'
      rw [preN_left (Nat.le_refl _), pre_count] at h1
      have := h.pl.lo
      omega
  have h1 := h.pl.lo
  have h2 := h.pl.hi
  have h3 := h.rest
  have h4 := h.lim
  rw [preN_left (by omega)] at h1 h2 h3
  simp only [T.count] at h4
  exact ⟨⟨by rw [T.len]; exact hj, h1, h2⟩, h.at_, h3, a, h.lo, h.hi, by omega⟩
theorem FindI.here {i i0 j : Nat} {v x s : Int} {l r : T} (h : FindI i v (.node l s r) i0 x j) (h1 : l.total ≤ x) (h2 : x - l.total < s) : i0 + l.count = i ∧ x - l.total = v := by
  obtain ⟨a, b, c, d, e, f⟩ := T.parts h.ok
  have hj : j = l.count := by
    refine h.pl.uniq (fun _ hk => h.ok.nn _ (List.getElem_mem hk)) ⟨?_, ?_, ?_⟩
    · rw [T.len]; simp only [T.count]; omega
    · rw [preN_left (Nat.le_refl _), pre_count]; exact h1
    · rw [preN_right (k := 0) (by omega), pre_zero]; omega
  subst hj
  have h3 := h.rest
  rw [preN_left (Nat.le_refl _), pre_count] at h3
  exact ⟨h.at_.symm, h3.symm⟩
theorem FindI.right {i i0 j : Nat} {v x s : Int} {l r : T} (h : FindI i v (.node l s r) i0 x j) (h1 : l.total ≤ x) (h2 : s ≤ x - l.total) : ∃ k, FindI i v r (i0 + l.count + 1) (x - l.total - s) k := by
  obtain ⟨a, b, c, d, e, f⟩ := T.parts h.ok
  have hl := (T.bounds a).1
  have hx := h.hi
  have hj : l.count + 1 ≤ j := by
    rcases Nat.lt_or_ge j (l.count + 1) with h' | h'
    · have g1 := pre_le h.ok.nn (a := j + 1) (b := l.count + 1) h'
      rw [preN_right (j := l.count + 1) (k := 0) (by omega), pre_zero] at g1
      have := h.pl.hi
      omega
    · exact h'
  have g1 := h.pl.lo
  have g2 := h.pl.hi
  have g3 := h.rest
  have g4 := h.lim
  have g5 := h.pl.lt
  have g6 := h.at_
  rw [T.len] at g5
  simp only [T.count] at g4 g5
  rw [preN_right (k := j - l.count - 1) (by omega)] at g1 g3
  rw [preN_right (k := j - l.count - 1 + 1) (by omega)] at g2
  exact ⟨j - l.count - 1, ⟨by rw [T.len]; omega, by omega, by omega⟩, by omega, by omega, b, by omega, by omega, by omega⟩
theorem FindI.pos {i i0 j : Nat} {v x : Int} {u : T} (h : FindI i v u i0 x j) : 0 < u.count := by
  have := h.pl.lt
  rw [T.len] at this
  omega

theorem find_exit {a i : Nat} {b v : Int} (h : a = i ∧ b = v) : Ending.returned (.tuple #[.int .i64 (a : Nat), .int .i64 b, .int .i64 0]) = .returned (.tuple #[.int .i64 i, .int .i64 v, .int .i64 0]) := by rw [h.1, h.2]
set_option maxHeartbeats 2000000 in
theorem findR_bad {t : T} {p : Option Addr} {w : World} (x : Int) (hb : x < 0 ∨ t.total ≤ x) :
    Calls Try.prog 20 #[.agg #[.int .i64 t.count, .int .i64 t.total, .int .i64 t.depth, .pointer p], .int .i64 x] w fun e w' => e = .returned (.tuple #[.int .i64 0, .int .i64 0, .int .i64 4]) ∧ Below w.heap.size w w' := by
  have HB := Lib.hid ((Below.refl w.heap.size w).alloc (Nat.le_refl _) (.cells #[.int .i64 t.count, .int .i64 t.total, .int .i64 t.depth, .pointer p] 27))
  by_cases h : x < 0
  · clear hb
    go_enter Try.func20, Try.ntmps20
    go_wp2_with fail
    go_ret3
    exact ⟨rfl, HB.out⟩
  · have h2 : t.total ≤ x := by omega
    clear hb
    go_enter Try.func20, Try.ntmps20
    go_wp2_with fail
    go_ret3
    exact ⟨rfl, HB.out⟩

set_option maxHeartbeats 4000000 in
theorem findR_ok {t : T} {p : Option Addr} {w : World} {x : Int} {i : Nat} (hn : Nd w t p) (ho : Ok t.list) (hp : Place t.list x i) :
    Calls Try.prog 20 #[.agg #[.int .i64 t.count, .int .i64 t.total, .int .i64 t.depth, .pointer p], .int .i64 x] w fun e w' => e = .returned (.tuple #[.int .i64 i, .int .i64 (x - pre t.list i), .int .i64 0]) ∧ Below w.heap.size w w' := by
  have hc := (T.bounds ho).2.2.1
  have htt := (T.bounds ho).2.1
  have h0 : ¬ x < 0 := by have := hp.lo; have := pre_nn ho.nn i; omega
  have h1 : x < t.total := by
    have h3 := hp.hi
    have h4 := hp.lt
    rw [T.len] at h4
    have := pre_le ho.nn (a := i + 1) (b := t.count) (by omega)
    rw [pre_count] at this
    omega
  have h2 : decide (t.total ≤ x) = false := by simp; omega
  have hF : FindI i (x - pre t.list i) t 0 x i := ⟨hp, by omega, rfl, ho, by omega, by omega, by omega⟩
  have hB : Below w.heap.size w (w.alloc (.cells #[.int .i64 t.count, .int .i64 t.total, .int .i64 t.depth, .pointer p] 27)) := (Below.refl w.heap.size w).alloc (Nat.le_refl _) _
  have HN := Lib.hid (hn.below hB)
  have HB := Lib.hid hB
  have HI := Lib.hid hF
  clear ho hn hB hp hF
  generalize x - pre t.list i = v at *
  go_enter Try.func20, Try.ntmps20
  go_wp2_with fail
  clear h0 h1 h2
  go_loopg [4, 5, 7] t.count (fun g s4 s5 s7 wr => ∃ (u : T) (q : Option Addr) (i0 j : Nat) (y : Int), g = u.count ∧ s4 = .int .i64 i0 ∧ s5 = .int .i64 y ∧ s7 = .pointer q ∧ Hid (Nd wr u q) ∧ Hid (FindI i v u i0 y j) ∧ Hid (Below w.heap.size w wr))
  case atStart => exact ⟨t, p, 0, i, x, rfl, rfl, rfl, rfl, HN, HI, HB⟩
  case round =>
    obtain ⟨u, q, i0, j, y, rfl, rfl, rfl, rfl, HU, HJ, HW⟩ := hrel
    obtain ⟨l, s, r, rfl⟩ := T.count_pos HJ.out.pos
    have y0 := HJ.out.lo
    have y1 := HJ.out.hi
    have ym := HJ.out.lim
    have yp := T.parts HJ.out.ok
    obtain ⟨ya, _, yb, yc, _, _⟩ := yp
    have yl := (T.bounds ya).1
    have yh := (T.bounds ya).2.1
    have hN := HU.out
    obtain ⟨b, pl, pr, rfl, hh, hl, hr⟩ := hN
    obtain ⟨g0, g1, g2, g3, g4, g5, g6, g7, g8⟩ := nd_cells hh
    have HL := Lib.hid hl
    have HR := Lib.hid hr
    clear hh hl hr HU ya
    have ec : (T.node l s r).count = l.count + 1 + r.count := rfl
    have EC := Lib.hid ec
    rw [ec] at ym
    clear ec
    by_cases h : y < l.total
    · go_wp2_with fail
      go_roundg l.count
      case measure => rw [EC.out]; omega
      case rel => exact ⟨l, pl, i0, j, y, rfl, rfl, rfl, rfl, HL, Lib.hid (HJ.out.left h), HW⟩
    · by_cases h' : y - l.total < s
      · have HE := Lib.hid (HJ.out.here (by omega) h')
        go_wp2_with fail
        go_ret3
        refine ⟨?_, HW.out⟩
        have := find_exit HE.out
        simpa using this
      · obtain ⟨k, hk⟩ := HJ.out.right (by omega) (by omega)
        have HK := Lib.hid hk
        clear hk
        go_wp2_with fail
        go_roundg r.count
        case measure => rw [EC.out]; omega
        case rel => exact ⟨r, pr, i0 + l.count + 1, k, y - l.total - s, rfl, by go_num, rfl, rfl, HR, HK, HW⟩
end Go.Proofs.Ytfkjnepafgehiaa
