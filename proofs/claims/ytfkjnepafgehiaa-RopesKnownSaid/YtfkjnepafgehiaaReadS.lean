/- Walks of Sum and Find. -/
import Derived.Test.YtfkjnepafgehiaaReadR
namespace Go.Proofs.Ytfkjnepafgehiaa
open Go.RowKit

theorem preN_left {l r : T} {x : Int} {j : Nat} (h : j ≤ l.count) : pre (T.node l x r).list j = pre l.list j := by
  unfold pre
  rw [T.list, List.take_append_of_le_length (by rw [T.len]; exact h)]
theorem preN_right {l r : T} {x : Int} {j k : Nat} (h : j = l.count + 1 + k) : pre (T.node l x r).list j = l.total + x + pre r.list k := by
  unfold pre
  have e : j = l.list.length + (k + 1) := by rw [T.len]; omega
  rw [T.list, e, List.take_length_add_append, List.take_succ_cons, List.sum_append, List.sum_cons, T.sum]
  omega
theorem pre_nn {l : List Int} (h : ∀ x ∈ l, 0 ≤ x) (k : Nat) : 0 ≤ pre l k := sum_nn fun x hx => h x ((List.take_sublist k l).subset hx)

/-- where Sum is: in the tree u, with j sizes to come -/
structure SumI (v : Int) (u : T) (j : Nat) (acc : Int) : Prop where
  hj : j ≤ u.count
  ok : Ok u.list
  sum : acc + pre u.list j = v
  lo : 0 ≤ acc
  hi : v ≤ 4611686018427387904
theorem SumI.left {v x acc : Int} {l r : T} {j : Nat} (h : SumI v (.node l x r) j acc) (hj : j ≤ l.count) : SumI v l j acc :=
  ⟨hj, (T.parts h.ok).1, by rw [← h.sum, preN_left hj], h.lo, h.hi⟩
theorem SumI.right {v x acc : Int} {l r : T} {j k : Nat} (h : SumI v (.node l x r) j acc) (hj : j = l.count + 1 + k) : SumI v r k (acc + (l.total + x)) ∧ 0 ≤ l.total ∧ 0 ≤ x ∧ acc + (l.total + x) ≤ 4611686018427387904 := by
  obtain ⟨a, b, c, _, _, _⟩ := T.parts h.ok
  have h1 := (T.bounds a).1
  have h2 := h.sum
  rw [preN_right hj] at h2
  have h3 := pre_nn b.nn k
  have h4 := h.lo
  have h5 := h.hi
  have h6 := h.hj
  simp only [T.count] at h6
  exact ⟨⟨by omega, b, by omega, by omega, h5⟩, h1, c, by omega⟩
theorem SumI.done {v acc : Int} {u : T} (h : SumI v u 0 acc) : acc = v := by
  have := h.sum
  rw [pre_zero] at this
  omega

set_option maxHeartbeats 2000000 in
theorem sumR_bad {t : T} {p : Option Addr} {w : World} (i : Int) (ho : Ok t.list) (hi : i ≤ 9223372036854775807) (hb : i < 0 ∨ (t.count : Int) < i) :
    Calls Try.prog 18 #[.agg #[.int .i64 t.count, .int .i64 t.total, .int .i64 t.depth, .pointer p], .int .i64 i] w fun e w' => e = .returned (.tuple #[.int .i64 0, .int .i64 4]) ∧ Below w.heap.size w w' := by
  have hc := (T.bounds ho).2.2.1
  have HP := Lib.hid (part_any t.count t.total t.depth p i 0 (w.alloc (.cells #[.int .i64 t.count, .int .i64 t.total, .int .i64 t.depth, .pointer p] 27)) hc hi)
  rw [partE_bad (by omega)] at HP
  have HB := Lib.hid (((Below.refl w.heap.size w).alloc (Nat.le_refl _) (.cells #[.int .i64 t.count, .int .i64 t.total, .int .i64 t.depth, .pointer p] 27)).alloc (by simp) (.cells #[.int .i64 t.count, .int .i64 t.total, .int .i64 t.depth, .pointer p] 27))
  clear ho hb hi hc
  go_enter Try.func18, Try.ntmps18
  go_wp2_with fail
  refine HP.out.mono ?_
  rintro e w' ⟨rfl, rfl⟩
  go_wp2_with fail
  go_ret2
  exact ⟨rfl, HB.out⟩

theorem sum_exit {v acc : Int} (h : acc = v) : Ending.returned (.tuple #[.int .i64 acc, .int .i64 0]) = .returned (.tuple #[.int .i64 v, .int .i64 0]) := by rw [h]
set_option maxHeartbeats 4000000 in
theorem sumR_ok {t : T} {p : Option Addr} {w : World} {i : Nat} (hn : Nd w t p) (ho : Ok t.list) (hi : i ≤ t.count) :
    Calls Try.prog 18 #[.agg #[.int .i64 t.count, .int .i64 t.total, .int .i64 t.depth, .pointer p], .int .i64 i] w fun e w' => e = .returned (.tuple #[.int .i64 (pre t.list i), .int .i64 0]) ∧ Below w.heap.size w w' := by
  have hc := (T.bounds ho).2.2.1
  have hS : SumI (pre t.list i) t i 0 := ⟨hi, ho, by omega, by omega, Int.le_trans (sum_sub (List.take_sublist _ _) ho.nn) ho.sum⟩
  have HP := Lib.hid (part_any t.count t.total t.depth p i 0 (w.alloc (.cells #[.int .i64 t.count, .int .i64 t.total, .int .i64 t.depth, .pointer p] 27)) hc (by omega))
  rw [show partE t.count i 0 = 0 from partE_ok (n := 0) (by omega)] at HP
  have hB : Below w.heap.size w ((w.alloc (.cells #[.int .i64 t.count, .int .i64 t.total, .int .i64 t.depth, .pointer p] 27)).alloc (.cells #[.int .i64 t.count, .int .i64 t.total, .int .i64 t.depth, .pointer p] 27)) := (((Below.refl w.heap.size w).alloc (Nat.le_refl _) _).alloc (by simp) _)
  have HN := Lib.hid (hn.below hB)
  have HB := Lib.hid hB
  have HI := Lib.hid hS
  clear ho hn hB hi hS
  generalize pre t.list i = v at *
  go_enter Try.func18, Try.ntmps18
  go_wp2_with fail
  refine HP.out.mono ?_
  rintro e w' ⟨rfl, rfl⟩
  go_wp2_with fail
  go_loopg [1, 7, 8] t.count (fun g s1 s7 s8 wr => ∃ (u : T) (q : Option Addr) (j : Nat) (acc : Int), g = u.count ∧ s1 = .int .i64 j ∧ s7 = .int .i64 acc ∧ s8 = .pointer q ∧ Hid (Nd wr u q) ∧ Hid (SumI v u j acc) ∧ Hid (Below w.heap.size w wr) ∧ u.count ≤ 4096)
  case atStart => exact ⟨t, p, i, 0, rfl, rfl, rfl, rfl, HN, HI, HB, hc⟩
  case round =>
    obtain ⟨u, q, j, acc, rfl, rfl, rfl, rfl, HU, HJ, HW, hu⟩ := hrel
    rcases Nat.eq_zero_or_pos j with h0 | h0
    · subst h0
      have hd := Lib.hid HJ.out.done
      go_wp2_with fail
      go_ret2
      exact ⟨sum_exit hd.out, HW.out⟩
    · have hj := HJ.out.hj
      obtain ⟨l, x, r, rfl⟩ := T.count_pos (t := u) (by omega)
      have hN := HU.out
      obtain ⟨b, pl, pr, rfl, hh, hl, hr⟩ := hN
      obtain ⟨i0, i1, i2, i3, i4, i5, i6, i7, i8⟩ := nd_cells hh
      have HL := Lib.hid hl
      have HR := Lib.hid hr
      clear hh hl hr HU
      have ec : (T.node l x r).count = l.count + 1 + r.count := rfl
      have EC := Lib.hid ec
      rw [ec] at hu hj
      clear ec
      by_cases h : j ≤ l.count
      · go_wp2_with fail
        go_roundg l.count
        case measure => rw [EC.out]; omega
        case rel => exact ⟨l, pl, j, acc, rfl, rfl, rfl, rfl, HL, Lib.hid (HJ.out.left h), HW, by omega⟩
      · obtain ⟨hS, t1, t2, t3⟩ := HJ.out.right (k := j - l.count - 1) (by omega)
        have t4 := HJ.out.lo
        have HS := Lib.hid hS
        clear hS
        have w1 : IntKind.i64.wrap (l.total + x) = l.total + x := IntWalk.i64_in _ (by omega)
        have w2 : IntKind.i64.wrap (acc + (l.total + x)) = acc + (l.total + x) := IntWalk.i64_in _ (by omega)
        go_wp2_with fail
        go_quiet (fail)
        clear w1 w2
        go_wp2_with fail
        go_roundg r.count
        case measure => rw [EC.out]; omega
        case rel => exact ⟨r, pr, j - l.count - 1, acc + (l.total + x), rfl, by go_num, rfl, rfl, HR.out.drewN _, HS, ⟨HW.out.os, HW.out.tape, HW.out.output, HW.out.size, HW.out.block⟩, by omega⟩
end Go.Proofs.Ytfkjnepafgehiaa
