/- Walks of At, Sum and Find. -/
import Derived.Test.YtfkjnepafgehiaaSmallW
namespace Go.Proofs.Ytfkjnepafgehiaa
open Go.RowKit

/-- where At is: in the tree u, at the index j -/
structure AtI (v : Int) (u : T) (j : Nat) : Prop where
  val : u.list[j]? = some v
theorem AtI.lt {v : Int} {u : T} {j : Nat} (h : AtI v u j) : j < u.count := by
  have := (List.getElem?_eq_some_iff.1 h.val).1
  rwa [T.len] at this
theorem AtI.left {v x : Int} {l r : T} {j : Nat} (h : AtI v (.node l x r) j) (hj : j < l.count) : AtI v l j :=
  ⟨by have := h.val; rwa [T.list, List.getElem?_append_left (by rw [T.len]; exact hj)] at this⟩
theorem AtI.right {v x : Int} {l r : T} {j k : Nat} (h : AtI v (.node l x r) j) (hj : j = l.count + 1 + k) : AtI v r k :=
  ⟨by
    have := h.val
    rw [T.list, List.getElem?_append_right (by rw [T.len]; omega), T.len, show j - l.count = k + 1 by omega] at this
    simpa using this⟩
theorem AtI.here {v x : Int} {l r : T} {j : Nat} (h : AtI v (.node l x r) j) (hj : j = l.count) : x = v := by
  have := h.val
  rw [T.list, List.getElem?_append_right (by rw [T.len]; omega), T.len, show j - l.count = 0 by omega] at this
  simpa using this

set_option maxHeartbeats 2000000 in
theorem at_bad {t : T} {p : Option Addr} {w : World} (i : Int) (ho : Ok t.list) (hi : i ≤ 9223372036854775807) (hb : i < 0 ∨ (t.count : Int) ≤ i) :
    Calls Try.prog 16 #[.agg #[.int .i64 t.count, .int .i64 t.total, .int .i64 t.depth, .pointer p], .int .i64 i] w fun e w' => e = .returned (.tuple #[.int .i64 0, .int .i64 4]) ∧ Below w.heap.size w w' := by
  have hc := (T.bounds ho).2.2.1
  have HP := Lib.hid (part_any t.count t.total t.depth p i 1 (w.alloc (.cells #[.int .i64 t.count, .int .i64 t.total, .int .i64 t.depth, .pointer p] 27)) hc hi)
  rw [partE_bad (by omega)] at HP
  have HB := Lib.hid (((Below.refl w.heap.size w).alloc (Nat.le_refl _) (.cells #[.int .i64 t.count, .int .i64 t.total, .int .i64 t.depth, .pointer p] 27)).alloc (by simp) (.cells #[.int .i64 t.count, .int .i64 t.total, .int .i64 t.depth, .pointer p] 27))
  clear ho hb hi hc
  go_enter Try.func16, Try.ntmps16
  go_wp2_with fail
  refine HP.out.mono ?_
  rintro e w' ⟨rfl, rfl⟩
  go_wp2_with fail
  go_ret2
  exact ⟨rfl, HB.out⟩

set_option maxHeartbeats 2000000 in
theorem at_ok {t : T} {p : Option Addr} {w : World} {i : Nat} {v : Int} (hn : Nd w t p) (ho : Ok t.list) (hv : t.list[i]? = some v) :
    Calls Try.prog 16 #[.agg #[.int .i64 t.count, .int .i64 t.total, .int .i64 t.depth, .pointer p], .int .i64 i] w fun e w' => e = .returned (.tuple #[.int .i64 v, .int .i64 0]) ∧ Below w.heap.size w w' := by
  have hA : AtI v t i := ⟨hv⟩
  have hc := (T.bounds ho).2.2.1
  have hi := hA.lt
  have HP := Lib.hid (part_any t.count t.total t.depth p i 1 (w.alloc (.cells #[.int .i64 t.count, .int .i64 t.total, .int .i64 t.depth, .pointer p] 27)) hc (by omega))
  rw [show partE t.count i 1 = 0 from partE_ok (n := 1) (by omega)] at HP
  have hB : Below w.heap.size w ((w.alloc (.cells #[.int .i64 t.count, .int .i64 t.total, .int .i64 t.depth, .pointer p] 27)).alloc (.cells #[.int .i64 t.count, .int .i64 t.total, .int .i64 t.depth, .pointer p] 27)) := (((Below.refl w.heap.size w).alloc (Nat.le_refl _) _).alloc (by simp) _)
  have HN := Lib.hid (hn.below hB)
  have HB := Lib.hid hB
  have HI := Lib.hid hA
  clear ho hn hB hv hA hi
  go_enter Try.func16, Try.ntmps16
  go_wp2_with fail
  refine HP.out.mono ?_
  rintro e w' ⟨rfl, rfl⟩
  go_wp2_with fail
  go_loopg [1, 7] t.count (fun g s1 s7 wr => ∃ (u : T) (q : Option Addr) (j : Nat), g = u.count ∧ s1 = .int .i64 j ∧ s7 = .pointer q ∧ Hid (Nd wr u q) ∧ Hid (AtI v u j) ∧ Hid (Below w.heap.size w wr) ∧ u.count ≤ 4096)
  case atStart => exact ⟨t, p, i, rfl, rfl, rfl, HN, HI, HB, hc⟩
  case round =>
    obtain ⟨u, q, j, rfl, rfl, rfl, HU, HJ, HW, hu⟩ := hrel
    have hj := HJ.out.lt
    obtain ⟨l, x, r, rfl⟩ := T.count_pos (t := u) (by omega)
    have hN := HU.out
    obtain ⟨b, pl, pr, rfl, hh, hl, hr⟩ := hN
    obtain ⟨i0, i1, i2, i3, i4, i5, i6, i7, i8⟩ := nd_cells hh
    have HL := Lib.hid hl
    have HR := Lib.hid hr
    clear hh hl hr HU
    have ec : (T.node l x r).count = l.count + 1 + r.count := rfl
    have EC := Lib.hid ec
    rw [ec] at hu hj
    clear ec
    rcases Nat.lt_trichotomy j l.count with h | h | h
    · have e0 : ((j : Int) != (l.count : Int)) = true := by simp; omega
      go_wp2_with fail
      go_roundg l.count
      case measure => rw [EC.out]; omega
      case rel => exact ⟨l, pl, j, rfl, rfl, rfl, HL, Lib.hid (HJ.out.left h), HW, by omega⟩
    · have hx := HJ.out.here h
      subst hx
      have e0 : ((j : Int) != (l.count : Int)) = false := by simp; omega
      go_wp2_with fail
      go_ret2
      exact ⟨rfl, HW.out⟩
    · have e0 : ((j : Int) != (l.count : Int)) = true := by simp; omega
      go_wp2_with fail
      go_roundg r.count
      case measure => rw [EC.out]; omega
      case rel => exact ⟨r, pr, j - l.count - 1, rfl, by go_num, rfl, HR, Lib.hid (HJ.out.right (by omega)), HW, by omega⟩
end Go.Proofs.Ytfkjnepafgehiaa
