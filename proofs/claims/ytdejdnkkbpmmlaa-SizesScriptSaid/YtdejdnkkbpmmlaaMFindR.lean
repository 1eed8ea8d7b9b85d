/- The walk of Find. -/
import Derived.Test.YtdejdnkkbpmmlaaMBalA
import Derived.Test.YtdejdnkkbpmmlaaMFRefW
import Derived.Deep.LoopGhost
import Derived.IntWalk
namespace Go.Proofs.Ytdejdnkkbpmmlaa
open Go.RowKit

/-- the error of n sizes from an index on -/
def partE (k : Nat) (at_ n : Int) : Int := if at_ < 0 ∨ n < 0 ∨ (k : Int) - at_ < n then 4 else 0
theorem partE_ok {k i n : Nat} (h : i + n ≤ k) : partE k i n = 0 := by unfold partE; rw [if_neg (by omega)]
theorem partE_bad {k : Nat} {at_ n : Int} (h : at_ < 0 ∨ n < 0 ∨ (k : Int) - at_ < n) : partE k at_ n = 4 := by unfold partE; rw [if_pos h]
theorem partE_cases {k : Nat} {at_ n : Int} (h : partE k at_ n = 0) : ∃ i m : Nat, at_ = i ∧ n = m ∧ i + m ≤ k := by
  unfold partE at h
  split at h
  · omega
  · exact ⟨at_.toNat, n.toNat, by omega, by omega, by omega⟩

set_option maxHeartbeats 1000000 in
theorem part_any (k : Nat) (x d : Int) (p : Option Addr) (at_ n : Int) (w : World) (hk : k ≤ 4096) (ha : at_ ≤ 9223372036854775807) :
    Calls Try.prog 46 #[.agg #[.int .i64 k, .int .i64 x, .int .i64 d, .pointer p], .int .i64 at_, .int .i64 n] w fun e w' => e = .returned (.int .i64 (partE k at_ n)) ∧ w.alloc (.cells #[.int .i64 k, .int .i64 x, .int .i64 d, .pointer p] 29) = w' := by
  by_cases h1 : at_ < 0
  · have HP := Lib.hid (partE_bad (k := k) (n := n) (.inl h1))
    go_enter Try.func46, Try.ntmps46
    go_wp2_with fail
    go_ret
    exact ⟨ret_int HP.out.symm, rfl⟩
  · by_cases h2 : n < 0
    · have HP := Lib.hid (partE_bad (k := k) (at_ := at_) (.inr (.inl h2)))
      go_enter Try.func46, Try.ntmps46
      go_wp2_with fail
      go_ret
      exact ⟨ret_int HP.out.symm, rfl⟩
    · by_cases h3 : (k : Int) - at_ < n
      · have HP := Lib.hid (partE_bad (.inr (.inr h3)))
        go_enter Try.func46, Try.ntmps46
        go_wp2_with fail
        go_ret
        exact ⟨ret_int HP.out.symm, rfl⟩
      · have HP : Hid (partE k at_ n = 0) := Lib.hid (by unfold partE; rw [if_neg (by omega)])
        go_enter Try.func46, Try.ntmps46
        go_wp2_with fail
        go_ret
        exact ⟨ret_int HP.out.symm, rfl⟩

/-- the error of two ropes that are put together -/
def joinE (a b : List Int) : Int := if 4096 < a.length + b.length then 3 else if 4611686018427387904 - a.sum < b.sum then 13 else 0
theorem joinE_ok {a b : List Int} (h : Ok (a ++ b)) : joinE a b = 0 := by
  have h1 := h.len
  have h2 := h.sum
  simp at h1 h2
  unfold joinE
  rw [if_neg (by omega), if_neg (by omega)]
theorem ok_of_joinE {a b : List Int} (ha : Ok a) (hb : Ok b) (h : joinE a b = 0) : Ok (a ++ b) := by
  unfold joinE at h
  split at h
  · omega
  · split at h
    · omega
    · refine ⟨fun x hx => ?_, by simp; omega, by simp; omega⟩
      rcases List.mem_append.1 hx with h' | h'
      · exact ha.nn x h'
      · exact hb.nn x h'

set_option maxHeartbeats 1000000 in
theorem joinE_any {a b : T} {pa pb : Option Addr} {w : World} (ha : Ok a.list) (hb : Ok b.list) :
    Calls Try.prog 52 #[.agg #[.int .i64 a.count, .int .i64 a.total, .int .i64 a.depth, .pointer pa], .agg #[.int .i64 b.count, .int .i64 b.total, .int .i64 b.depth, .pointer pb]] w
      fun e w' => e = .returned (.int .i64 (joinE a.list b.list)) ∧ Below w.heap.size w w' := by
  obtain ⟨a1, a2, a3, a4⟩ := T.bounds ha
  obtain ⟨b1, b2, b3, b4⟩ := T.bounds hb
  have HB := Lib.hid (((Below.refl w.heap.size w).alloc (Nat.le_refl _) (.cells #[.int .i64 a.count, .int .i64 a.total, .int .i64 a.depth, .pointer pa] 29)).alloc (by simp) (.cells #[.int .i64 b.count, .int .i64 b.total, .int .i64 b.depth, .pointer pb] 29))
  unfold joinE
  rw [T.len, T.len, T.sum, T.sum]
  clear ha hb
  by_cases h1 : 4096 < a.count + b.count
  · rw [if_pos h1]
    have e1 : (4096 : Int) < (a.count : Int) + (b.count : Int) := by omega
    go_enter Try.func52, Try.ntmps52
    go_wp2_with fail
    go_ret
    exact ⟨rfl, HB.out⟩
  · rw [if_neg h1]
    have e1 : decide ((4096 : Int) < (a.count : Int) + (b.count : Int)) = false := by simp; omega
    by_cases h2 : 4611686018427387904 - a.total < b.total
    · rw [if_pos h2]
      go_enter Try.func52, Try.ntmps52
      go_wp2_with fail
      go_ret
      exact ⟨rfl, HB.out⟩
    · rw [if_neg h2]
      go_enter Try.func52, Try.ntmps52
      go_wp2_with fail
      go_ret
      exact ⟨rfl, HB.out⟩

theorem len_any (c x d : Int) (p : Option Addr) (w : World) : Calls Try.prog 27 #[.agg #[.int .i64 c, .int .i64 x, .int .i64 d, .pointer p]] w fun e w' => e = .returned (.int .i64 c) ∧ w.alloc (.cells #[.int .i64 c, .int .i64 x, .int .i64 d, .pointer p] 29) = w' := by
  go_enter Try.func27, Try.ntmps27
  go_wp2_with fail
  go_ret
  exact ⟨rfl, rfl⟩
theorem total_any (c x d : Int) (p : Option Addr) (w : World) : Calls Try.prog 28 #[.agg #[.int .i64 c, .int .i64 x, .int .i64 d, .pointer p]] w fun e w' => e = .returned (.int .i64 x) ∧ w.alloc (.cells #[.int .i64 c, .int .i64 x, .int .i64 d, .pointer p] 29) = w' := by
  go_enter Try.func28, Try.ntmps28
  go_wp2_with fail
  go_ret
  exact ⟨rfl, rfl⟩
end Go.Proofs.Ytdejdnkkbpmmlaa

namespace Go.Proofs.Ytdejdnkkbpmmlaa
open Go.RowKit

/-- where At is: in the tree u, at the index j -/
structure AtI (v : Int) (u : T) (j : Nat) : Prop where
  val : u.list[j]? = some v
theorem AtI.lt {v : Int} {u : T} {j : Nat} (h : AtI v u j) : j < u.count := by
  have := (List.getElem?_eq_some_iff.1 h.val).1
  rwa [T.len] at this
theorem AtI.left {v x : Int} {l r : T} {j : Nat} (h : AtI v (.node l x r) j) (hj : j < l.count) : AtI v l j :=
  ⟨by have := h.val; rwa [T.list, List.getElem?_append_left (by rw [T.len]; exact hj)] at this⟩
theorem AtI.right {v x : Int} {l r : T} {j k : Nat} (h : AtI v (.node l x r) j) (hj : j = l.count + 1 + k) : AtI v r k :=
  ⟨by
    have := h.val
    rw [T.list, List.getElem?_append_right (by rw [T.len]; omega), T.len, show j - l.count = k + 1 by omega] at this
    simpa using this⟩
theorem AtI.here {v x : Int} {l r : T} {j : Nat} (h : AtI v (.node l x r) j) (hj : j = l.count) : x = v := by
  have := h.val
  rw [T.list, List.getElem?_append_right (by rw [T.len]; omega), T.len, show j - l.count = 0 by omega] at this
  simpa using this

set_option maxHeartbeats 2000000 in
theorem at_bad {t : T} {p : Option Addr} {w : World} (i : Int) (ho : Ok t.list) (hi : i ≤ 9223372036854775807) (hb : i < 0 ∨ (t.count : Int) ≤ i) :
    Calls Try.prog 32 #[.agg #[.int .i64 t.count, .int .i64 t.total, .int .i64 t.depth, .pointer p], .int .i64 i] w fun e w' => e = .returned (.tuple #[.int .i64 0, .int .i64 4]) ∧ Below w.heap.size w w' := by
  have hc := (T.bounds ho).2.2.1
  have HP := Lib.hid (part_any t.count t.total t.depth p i 1 (w.alloc (.cells #[.int .i64 t.count, .int .i64 t.total, .int .i64 t.depth, .pointer p] 29)) hc hi)
  rw [partE_bad (by omega)] at HP
  have HB := Lib.hid (((Below.refl w.heap.size w).alloc (Nat.le_refl _) (.cells #[.int .i64 t.count, .int .i64 t.total, .int .i64 t.depth, .pointer p] 29)).alloc (by simp) (.cells #[.int .i64 t.count, .int .i64 t.total, .int .i64 t.depth, .pointer p] 29))
  clear ho hb hi hc
  go_enter Try.func32, Try.ntmps32
  go_wp2_with fail
  refine HP.out.mono ?_
  rintro e w' ⟨rfl, rfl⟩
  go_wp2_with fail
  go_ret2
  exact ⟨rfl, HB.out⟩

set_option maxHeartbeats 2000000 in
theorem at_ok {t : T} {p : Option Addr} {w : World} {i : Nat} {v : Int} (hn : Nd w t p) (ho : Ok t.list) (hv : t.list[i]? = some v) :
    Calls Try.prog 32 #[.agg #[.int .i64 t.count, .int .i64 t.total, .int .i64 t.depth, .pointer p], .int .i64 i] w fun e w' => e = .returned (.tuple #[.int .i64 v, .int .i64 0]) ∧ Below w.heap.size w w' := by
  have hA : AtI v t i := ⟨hv⟩
  have hc := (T.bounds ho).2.2.1
  have hi := hA.lt
  have HP := Lib.hid (part_any t.count t.total t.depth p i 1 (w.alloc (.cells #[.int .i64 t.count, .int .i64 t.total, .int .i64 t.depth, .pointer p] 29)) hc (by omega))
  rw [show partE t.count i 1 = 0 from partE_ok (n := 1) (by omega)] at HP
  have hB : Below w.heap.size w ((w.alloc (.cells #[.int .i64 t.count, .int .i64 t.total, .int .i64 t.depth, .pointer p] 29)).alloc (.cells #[.int .i64 t.count, .int .i64 t.total, .int .i64 t.depth, .pointer p] 29)) := (((Below.refl w.heap.size w).alloc (Nat.le_refl _) _).alloc (by simp) _)
  have HN := Lib.hid (hn.below hB)
  have HB := Lib.hid hB
  have HI := Lib.hid hA
  clear ho hn hB hv hA hi
  go_enter Try.func32, Try.ntmps32
  go_wp2_with fail
  refine HP.out.mono ?_
  rintro e w' ⟨rfl, rfl⟩
  go_wp2_with fail
  go_loopg [1, 7] t.count (fun g s1 s7 wr => ∃ (u : T) (q : Option Addr) (j : Nat), g = u.count ∧ s1 = .int .i64 j ∧ s7 = .pointer q ∧ Hid (Nd wr u q) ∧ Hid (AtI v u j) ∧ Hid (Below w.heap.size w wr) ∧ u.count ≤ 4096)
  case atStart => exact ⟨t, p, i, rfl, rfl, rfl, HN, HI, HB, hc⟩
  case round =>
    obtain ⟨u, q, j, rfl, rfl, rfl, HU, HJ, HW, hu⟩ := hrel
    have hj := HJ.out.lt
    obtain ⟨l, x, r, rfl⟩ := T.count_pos (t := u) (by omega)
    have hN := HU.out
    obtain ⟨b, pl, pr, rfl, hh, hl, hr⟩ := hN
    obtain ⟨i0, i1, i2, i3, i4, i5, i6, i7, i8⟩ := nd_cells hh
    have HL := Lib.hid hl
    have HR := Lib.hid hr
    clear hh hl hr HU
    have ec : (T.node l x r).count = l.count + 1 + r.count := rfl
    have EC := Lib.hid ec
    rw [ec] at hu hj
    clear ec
    rcases Nat.lt_trichotomy j l.count with h | h | h
    · have e0 : ((j : Int) != (l.count : Int)) = true := by simp; omega
      go_wp2_with fail
      go_roundg l.count
      case measure => rw [EC.out]; omega
      case rel => exact ⟨l, pl, j, rfl, rfl, rfl, HL, Lib.hid (HJ.out.left h), HW, by omega⟩
    · have hx := HJ.out.here h
      subst hx
      have e0 : ((j : Int) != (l.count : Int)) = false := by simp; omega
      go_wp2_with fail
      go_ret2
      exact ⟨rfl, HW.out⟩
    · have e0 : ((j : Int) != (l.count : Int)) = true := by simp; omega
      go_wp2_with fail
      go_roundg r.count
      case measure => rw [EC.out]; omega
      case rel => exact ⟨r, pr, j - l.count - 1, rfl, by go_num, rfl, HR, Lib.hid (HJ.out.right (by omega)), HW, by omega⟩
end Go.Proofs.Ytdejdnkkbpmmlaa

namespace Go.Proofs.Ytdejdnkkbpmmlaa
open Go.RowKit

theorem preN_left {l r : T} {x : Int} {j : Nat} (h : j ≤ l.count) : pre (T.node l x r).list j = pre l.list j := by
  unfold pre
  rw [T.list, List.take_append_of_le_length (by rw [T.len]; exact h)]
theorem preN_right {l r : T} {x : Int} {j k : Nat} (h : j = l.count + 1 + k) : pre (T.node l x r).list j = l.total + x + pre r.list k := by
  unfold pre
  have e : j = l.list.length + (k + 1) := by rw [T.len]; omega
  rw [T.list, e, List.take_length_add_append, List.take_succ_cons, List.sum_append, List.sum_cons, T.sum]
  omega
theorem pre_nn {l : List Int} (h : ∀ x ∈ l, 0 ≤ x) (k : Nat) : 0 ≤ pre l k := sum_nn fun x hx => h x ((List.take_sublist k l).subset hx)

/-- where Sum is: in the tree u, with j sizes to come -/
structure SumI (v : Int) (u : T) (j : Nat) (acc : Int) : Prop where
  hj : j ≤ u.count
  ok : Ok u.list
  sum : acc + pre u.list j = v
  lo : 0 ≤ acc
  hi : v ≤ 4611686018427387904
theorem SumI.left {v x acc : Int} {l r : T} {j : Nat} (h : SumI v (.node l x r) j acc) (hj : j ≤ l.count) : SumI v l j acc :=
  ⟨hj, (T.parts h.ok).1, by rw [← h.sum, preN_left hj], h.lo, h.hi⟩
theorem SumI.right {v x acc : Int} {l r : T} {j k : Nat} (h : SumI v (.node l x r) j acc) (hj : j = l.count + 1 + k) : SumI v r k (acc + (l.total + x)) ∧ 0 ≤ l.total ∧ 0 ≤ x ∧ acc + (l.total + x) ≤ 4611686018427387904 := by
  obtain ⟨a, b, c, _, _, _⟩ := T.parts h.ok
  have h1 := (T.bounds a).1
  have h2 := h.sum
  rw [preN_right hj] at h2
  have h3 := pre_nn b.nn k
  have h4 := h.lo
  have h5 := h.hi
  have h6 := h.hj
  simp only [T.count] at h6
  exact ⟨⟨by omega, b, by omega, by omega, h5⟩, h1, c, by omega⟩
theorem SumI.done {v acc : Int} {u : T} (h : SumI v u 0 acc) : acc = v := by
  have := h.sum
  rw [pre_zero] at this
  omega

set_option maxHeartbeats 2000000 in
theorem sumR_bad {t : T} {p : Option Addr} {w : World} (i : Int) (ho : Ok t.list) (hi : i ≤ 9223372036854775807) (hb : i < 0 ∨ (t.count : Int) < i) :
    Calls Try.prog 30 #[.agg #[.int .i64 t.count, .int .i64 t.total, .int .i64 t.depth, .pointer p], .int .i64 i] w fun e w' => e = .returned (.tuple #[.int .i64 0, .int .i64 4]) ∧ Below w.heap.size w w' := by
  have hc := (T.bounds ho).2.2.1
  have HP := Lib.hid (part_any t.count t.total t.depth p i 0 (w.alloc (.cells #[.int .i64 t.count, .int .i64 t.total, .int .i64 t.depth, .pointer p] 29)) hc hi)
  rw [partE_bad (by omega)] at HP
  have HB := Lib.hid (((Below.refl w.heap.size w).alloc (Nat.le_refl _) (.cells #[.int .i64 t.count, .int .i64 t.total, .int .i64 t.depth, .pointer p] 29)).alloc (by simp) (.cells #[.int .i64 t.count, .int .i64 t.total, .int .i64 t.depth, .pointer p] 29))
  clear ho hb hi hc
  go_enter Try.func30, Try.ntmps30
  go_wp2_with fail
  refine HP.out.mono ?_
  rintro e w' ⟨rfl, rfl⟩
  go_wp2_with fail
  go_ret2
  exact ⟨rfl, HB.out⟩

theorem sum_exit {v acc : Int} (h : acc = v) : Ending.returned (.tuple #[.int .i64 acc, .int .i64 0]) = .returned (.tuple #[.int .i64 v, .int .i64 0]) := by rw [h]
set_option maxHeartbeats 4000000 in
theorem sumR_ok {t : T} {p : Option Addr} {w : World} {i : Nat} (hn : Nd w t p) (ho : Ok t.list) (hi : i ≤ t.count) :
    Calls Try.prog 30 #[.agg #[.int .i64 t.count, .int .i64 t.total, .int .i64 t.depth, .pointer p], .int .i64 i] w fun e w' => e = .returned (.tuple #[.int .i64 (pre t.list i), .int .i64 0]) ∧ Below w.heap.size w w' := by
  have hc := (T.bounds ho).2.2.1
  have hS : SumI (pre t.list i) t i 0 := ⟨hi, ho, by omega, by omega, Int.le_trans (sum_sub (List.take_sublist _ _) ho.nn) ho.sum⟩
  have HP := Lib.hid (part_any t.count t.total t.depth p i 0 (w.alloc (.cells #[.int .i64 t.count, .int .i64 t.total, .int .i64 t.depth, .pointer p] 29)) hc (by omega))
  rw [show partE t.count i 0 = 0 from partE_ok (n := 0) (by omega)] at HP
  have hB : Below w.heap.size w ((w.alloc (.cells #[.int .i64 t.count, .int .i64 t.total, .int .i64 t.depth, .pointer p] 29)).alloc (.cells #[.int .i64 t.count, .int .i64 t.total, .int .i64 t.depth, .pointer p] 29)) := (((Below.refl w.heap.size w).alloc (Nat.le_refl _) _).alloc (by simp) _)
  have HN := Lib.hid (hn.below hB)
  have HB := Lib.hid hB
  have HI := Lib.hid hS
  clear ho hn hB hi hS
  generalize pre t.list i = v at *
  go_enter Try.func30, Try.ntmps30
  go_wp2_with fail
  refine HP.out.mono ?_
  rintro e w' ⟨rfl, rfl⟩
  go_wp2_with fail
  go_loopg [1, 7, 8] t.count (fun g s1 s7 s8 wr => ∃ (u : T) (q : Option Addr) (j : Nat) (acc : Int), g = u.count ∧ s1 = .int .i64 j ∧ s7 = .int .i64 acc ∧ s8 = .pointer q ∧ Hid (Nd wr u q) ∧ Hid (SumI v u j acc) ∧ Hid (Below w.heap.size w wr) ∧ u.count ≤ 4096)
  case atStart => exact ⟨t, p, i, 0, rfl, rfl, rfl, rfl, HN, HI, HB, hc⟩
  case round =>
    obtain ⟨u, q, j, acc, rfl, rfl, rfl, rfl, HU, HJ, HW, hu⟩ := hrel
    rcases Nat.eq_zero_or_pos j with h0 | h0
    · subst h0
      have hd := Lib.hid HJ.out.done
      go_wp2_with fail
      go_ret2
      exact ⟨sum_exit hd.out, HW.out⟩
    · have hj := HJ.out.hj
      obtain ⟨l, x, r, rfl⟩ := T.count_pos (t := u) (by omega)
      have hN := HU.out
      obtain ⟨b, pl, pr, rfl, hh, hl, hr⟩ := hN
      obtain ⟨i0, i1, i2, i3, i4, i5, i6, i7, i8⟩ := nd_cells hh
      have HL := Lib.hid hl
      have HR := Lib.hid hr
      clear hh hl hr HU
      have ec : (T.node l x r).count = l.count + 1 + r.count := rfl
      have EC := Lib.hid ec
      rw [ec] at hu hj
      clear ec
      by_cases h : j ≤ l.count
      · go_wp2_with fail
        go_roundg l.count
        case measure => rw [EC.out]; omega
        case rel => exact ⟨l, pl, j, acc, rfl, rfl, rfl, rfl, HL, Lib.hid (HJ.out.left h), HW, by omega⟩
      · obtain ⟨hS, t1, t2, t3⟩ := HJ.out.right (k := j - l.count - 1) (by omega)
        have t4 := HJ.out.lo
        have HS := Lib.hid hS
        clear hS
        have w1 : IntKind.i64.wrap (l.total + x) = l.total + x := IntWalk.i64_in _ (by omega)
        have w2 : IntKind.i64.wrap (acc + (l.total + x)) = acc + (l.total + x) := IntWalk.i64_in _ (by omega)
        go_wp2_with fail
        go_quiet (fail)
        clear w1 w2
        go_wp2_with fail
        go_roundg r.count
        case measure => rw [EC.out]; omega
        case rel => exact ⟨r, pr, j - l.count - 1, acc + (l.total + x), rfl, by go_num, rfl, rfl, HR.out.drewN _, HS, ⟨HW.out.os, HW.out.tape, HW.out.output, HW.out.size, HW.out.block⟩, by omega⟩
end Go.Proofs.Ytdejdnkkbpmmlaa

namespace Go.Proofs.Ytdejdnkkbpmmlaa
open Go.RowKit

/-- where Find is: in the tree u, i0 sizes behind the start, with the rest x; the place is i, with the rest v -/
structure FindI (i : Nat) (v : Int) (u : T) (i0 : Nat) (x : Int) (j : Nat) : Prop where
  pl : Place u.list x j
  at_ : i = i0 + j
  rest : v = x - pre u.list j
  ok : Ok u.list
  lo : 0 ≤ x
  hi : x ≤ 4611686018427387904
  lim : i0 + u.count ≤ 4096
theorem pre_count (t : T) : pre t.list t.count = t.total := by rw [← T.len, pre, List.take_length, T.sum]
theorem pre_le {l : List Int} (h : ∀ x ∈ l, 0 ≤ x) {a b : Nat} (hab : a ≤ b) : pre l a ≤ pre l b := pre_mono (fun _ hk => h _ (List.getElem_mem hk)) hab
theorem FindI.left {i i0 j : Nat} {v x s : Int} {l r : T} (h : FindI i v (.node l s r) i0 x j) (hx : x < l.total) : FindI i v l i0 x j := by
  obtain ⟨a, b, c, d, e, f⟩ := T.parts h.ok
  have hj : j < l.count := by
    rcases Nat.lt_or_ge j l.count with h' | h'
    · exact h'
    · have h1 := pre_le h.ok.nn (a := l.count) (b := j) h'
      rw [preN_left (Nat.le_refl _), pre_count] at h1
      have := h.pl.lo
      omega
  have h1 := h.pl.lo
  have h2 := h.pl.hi
  have h3 := h.rest
  have h4 := h.lim
  rw [preN_left (by omega)] at h1 h2 h3
  simp only [T.count] at h4
  exact ⟨⟨by rw [T.len]; exact hj, h1, h2⟩, h.at_, h3, a, h.lo, h.hi, by omega⟩
theorem FindI.here {i i0 j : Nat} {v x s : Int} {l r : T} (h : FindI i v (.node l s r) i0 x j) (h1 : l.total ≤ x) (h2 : x - l.total < s) : i0 + l.count = i ∧ x - l.total = v := by
  obtain ⟨a, b, c, d, e, f⟩ := T.parts h.ok
  have hj : j = l.count := by
    refine h.pl.uniq (fun _ hk => h.ok.nn _ (List.getElem_mem hk)) ⟨?_, ?_, ?_⟩
    · rw [T.len]; simp only [T.count]; omega
    · rw [preN_left (Nat.le_refl _), pre_count]; exact h1
    · rw [preN_right (k := 0) (by omega), pre_zero]; omega
  subst hj
  have h3 := h.rest
  rw [preN_left (Nat.le_refl _), pre_count] at h3
  exact ⟨h.at_.symm, h3.symm⟩
theorem FindI.right {i i0 j : Nat} {v x s : Int} {l r : T} (h : FindI i v (.node l s r) i0 x j) (h1 : l.total ≤ x) (h2 : s ≤ x - l.total) : ∃ k, FindI i v r (i0 + l.count + 1) (x - l.total - s) k := by
  obtain ⟨a, b, c, d, e, f⟩ := T.parts h.ok
  have hl := (T.bounds a).1
  have hx := h.hi
  have hj : l.count + 1 ≤ j := by
    rcases Nat.lt_or_ge j (l.count + 1) with h' | h'
    · have g1 := pre_le h.ok.nn (a := j + 1) (b := l.count + 1) h'
      rw [preN_right (j := l.count + 1) (k := 0) (by omega), pre_zero] at g1
      have := h.pl.hi
      omega
    · exact h'
  have g1 := h.pl.lo
  have g2 := h.pl.hi
  have g3 := h.rest
  have g4 := h.lim
  have g5 := h.pl.lt
  have g6 := h.at_
  rw [T.len] at g5
  simp only [T.count] at g4 g5
  rw [preN_right (k := j - l.count - 1) (by omega)] at g1 g3
  rw [preN_right (k := j - l.count - 1 + 1) (by omega)] at g2
  exact ⟨j - l.count - 1, ⟨by rw [T.len]; omega, by omega, by omega⟩, by omega, by omega, b, by omega, by omega, by omega⟩
theorem FindI.pos {i i0 j : Nat} {v x : Int} {u : T} (h : FindI i v u i0 x j) : 0 < u.count := by
  have := h.pl.lt
  rw [T.len] at this
  omega

theorem find_exit {a i : Nat} {b v : Int} (h : a = i ∧ b = v) : Ending.returned (.tuple #[.int .i64 (a : Nat), .int .i64 b, .int .i64 0]) = .returned (.tuple #[.int .i64 i, .int .i64 v, .int .i64 0]) := by rw [h.1, h.2]
set_option maxHeartbeats 2000000 in
theorem findR_bad {t : T} {p : Option Addr} {w : World} (x : Int) (hb : x < 0 ∨ t.total ≤ x) :
    Calls Try.prog 31 #[.agg #[.int .i64 t.count, .int .i64 t.total, .int .i64 t.depth, .pointer p], .int .i64 x] w fun e w' => e = .returned (.tuple #[.int .i64 0, .int .i64 0, .int .i64 4]) ∧ Below w.heap.size w w' := by
  have HB := Lib.hid ((Below.refl w.heap.size w).alloc (Nat.le_refl _) (.cells #[.int .i64 t.count, .int .i64 t.total, .int .i64 t.depth, .pointer p] 29))
  by_cases h : x < 0
  · clear hb
    go_enter Try.func31, Try.ntmps31
    go_wp2_with fail
    go_ret3
    exact ⟨rfl, HB.out⟩
  · have h2 : t.total ≤ x := by omega
    clear hb
    go_enter Try.func31, Try.ntmps31
    go_wp2_with fail
    go_ret3
    exact ⟨rfl, HB.out⟩

set_option maxHeartbeats 4000000 in
theorem findR_ok {t : T} {p : Option Addr} {w : World} {x : Int} {i : Nat} (hn : Nd w t p) (ho : Ok t.list) (hp : Place t.list x i) :
    Calls Try.prog 31 #[.agg #[.int .i64 t.count, .int .i64 t.total, .int .i64 t.depth, .pointer p], .int .i64 x] w fun e w' => e = .returned (.tuple #[.int .i64 i, .int .i64 (x - pre t.list i), .int .i64 0]) ∧ Below w.heap.size w w' := by
  have hc := (T.bounds ho).2.2.1
  have htt := (T.bounds ho).2.1
  have h0 : ¬ x < 0 := by have := hp.lo; have := pre_nn ho.nn i; omega
  have h1 : x < t.total := by
    have h3 := hp.hi
    have h4 := hp.lt
    rw [T.len] at h4
    have := pre_le ho.nn (a := i + 1) (b := t.count) (by omega)
    rw [pre_count] at this
    omega
  have h2 : decide (t.total ≤ x) = false := by simp; omega
  have hF : FindI i (x - pre t.list i) t 0 x i := ⟨hp, by omega, rfl, ho, by omega, by omega, by omega⟩
  have hB : Below w.heap.size w (w.alloc (.cells #[.int .i64 t.count, .int .i64 t.total, .int .i64 t.depth, .pointer p] 29)) := (Below.refl w.heap.size w).alloc (Nat.le_refl _) _
  have HN := Lib.hid (hn.below hB)
  have HB := Lib.hid hB
  have HI := Lib.hid hF
  clear ho hn hB hp hF
  generalize x - pre t.list i = v at *
  go_enter Try.func31, Try.ntmps31
  go_wp2_with fail
  clear h0 h1 h2
  go_loopg [4, 5, 7] t.count (fun g s4 s5 s7 wr => ∃ (u : T) (q : Option Addr) (i0 j : Nat) (y : Int), g = u.count ∧ s4 = .int .i64 i0 ∧ s5 = .int .i64 y ∧ s7 = .pointer q ∧ Hid (Nd wr u q) ∧ Hid (FindI i v u i0 y j) ∧ Hid (Below w.heap.size w wr))
  case atStart => exact ⟨t, p, 0, i, x, rfl, rfl, rfl, rfl, HN, HI, HB⟩
  case round =>
    obtain ⟨u, q, i0, j, y, rfl, rfl, rfl, rfl, HU, HJ, HW⟩ := hrel
    obtain ⟨l, s, r, rfl⟩ := T.count_pos HJ.out.pos
    have y0 := HJ.out.lo
    have y1 := HJ.out.hi
    have ym := HJ.out.lim
    have yp := T.parts HJ.out.ok
    obtain ⟨ya, _, yb, yc, _, _⟩ := yp
    have yl := (T.bounds ya).1
    have yh := (T.bounds ya).2.1
    have hN := HU.out
    obtain ⟨b, pl, pr, rfl, hh, hl, hr⟩ := hN
    obtain ⟨g0, g1, g2, g3, g4, g5, g6, g7, g8⟩ := nd_cells hh
    have HL := Lib.hid hl
    have HR := Lib.hid hr
    clear hh hl hr HU ya
    have ec : (T.node l s r).count = l.count + 1 + r.count := rfl
    have EC := Lib.hid ec
    rw [ec] at ym
    clear ec
    by_cases h : y < l.total
    · go_wp2_with fail
      go_roundg l.count
      case measure => rw [EC.out]; omega
      case rel => exact ⟨l, pl, i0, j, y, rfl, rfl, rfl, rfl, HL, Lib.hid (HJ.out.left h), HW⟩
    · by_cases h' : y - l.total < s
      · have HE := Lib.hid (HJ.out.here (by omega) h')
        go_wp2_with fail
        go_ret3
        refine ⟨?_, HW.out⟩
        have := find_exit HE.out
        simpa using this
      · obtain ⟨k, hk⟩ := HJ.out.right (by omega) (by omega)
        have HK := Lib.hid hk
        clear hk
        go_wp2_with fail
        go_roundg r.count
        case measure => rw [EC.out]; omega
        case rel => exact ⟨r, pr, i0 + l.count + 1, k, y - l.total - s, rfl, by go_num, rfl, rfl, HR, HK, HW⟩
end Go.Proofs.Ytdejdnkkbpmmlaa
