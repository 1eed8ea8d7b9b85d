/- The walks of New, Set and List. -/
import Derived.Test.YtfkjnepafgehiaaFAddW
import Derived.Deep.OwnRows
namespace Go.Proofs.Ytfkjnepafgehiaa
open Go.RowKit

set_option maxHeartbeats 1000000 in
theorem new_bad (A : Option Addr) (c : Nat) (zs : List Int) (w : World) (hr : RdI w w.heap.size A zs) (hl : zs.length ≤ 9223372036854775807) (h0 : chk zs ≠ 0) :
    Calls Try.prog 14 #[.slice A zs.length c] w fun e w' => e = .returned (.tuple #[.pointer none, .int .i64 (chk zs)]) ∧ w = w' := by
  have hc := check_any A c zs w hr hl
  generalize chk zs = r at *
  have hb : (r == 0) = false := by simpa using h0
  have hb2 : (r != 0) = true := by simpa using h0
  clear h0 hr
  go_enter Try.func14, Try.ntmps14
  go_wp2_with (go_at_call 37; refine hc.mono ?_; rintro e w' ⟨rfl, rfl⟩)
  go_ret2
  exact ⟨rfl, rfl⟩

theorem Try.info2 : (Try.prog.info? 2).map (fun i => (i.zero, i.size, i.bytes)) = some (some (.int .i64 0), 1, 8) := by kernel_rfl
theorem madeCells_ints (n : Nat) : madeCells #[.int .i64 0] n = ints (List.replicate n 0) := by
  unfold ints madeCells
  apply Array.ext'
  simp only [Array.toList_map, Array.toList_range]
  apply List.ext_getElem?
  intro i
  simp [List.getElem?_replicate]
  by_cases h : i < n
  · simp [h, Nat.mod_one]
  · simp [h]
theorem make_ints (x : Int) (n : Nat) (e : x = n) (h : n ≤ 100000) (w : World) :
    (Instr.makeSlice 22 (.int .i64 x) (.int .i64 x)).run Try.prog w = .ok (.slice (some ⟨w.heap.size, 0, none⟩) n n) (w.alloc (.cells (ints (List.replicate n 0)) 2)) := by
  subst e
  rw [← madeCells_ints]
  exact run_make_row' 22 2 (.int .i64 0) 8 Try.underlying22 Try.info2 rfl .i64 .i64 n (by omega) (by omega) w

def Made (w : World) (l : List Int) (e : Ending) (w' : World) : Prop := ∃ b S s, e = .returned (.tuple #[.pointer (some ⟨b, 0, none⟩), .int .i64 0]) ∧ Tr w' b S l s ∧ w.heap.size ≤ b ∧ w.heap.size ≤ S ∧ Below w.heap.size w w'
set_option maxHeartbeats 1000000 in
theorem new_ok (A : Option Addr) (c : Nat) (zs : List Int) (w : World) (hr : RdI w w.heap.size A zs) (hv : Vd zs) :
    Calls Try.prog 14 #[.slice A zs.length c] w (Made w zs) := by
  have hn := hv.len
  have hc := check_any A c zs w hr (by omega)
  rw [chk_zero.2 hv] at hc
  have HR := Lib.hid hr
  have HV := Lib.hid hv
  have hmk := make_ints ((zs.length : Int) + 1) (zs.length + 1) (by omega) (by omega)
  clear hr hv
  go_enter Try.func14, Try.ntmps14
  go_wp2_with (go_at_call 37; refine hc.mono ?_; rintro e w' ⟨rfl, rfl⟩)
  have h0 : Tr ((w.alloc (.cells (ints (List.replicate (zs.length + 1) 0)) 2)).alloc (.cells #[.slice (some ⟨w.heap.size, 0, none⟩) (zs.length + 1) (zs.length + 1)] 71)) (w.heap.size + 1) w.heap.size (part zs 0) (List.replicate (zs.length + 1) 0) :=
    { box := by
        rw [part_len zs 0 (by omega)]
        have := heap_alloc_new (w.alloc (.cells (ints (List.replicate (zs.length + 1) 0)) 2)) (.cells #[.slice (some ⟨w.heap.size, 0, none⟩) (zs.length + 1) (zs.length + 1)] 71)
        simpa using this
      row := (Below.heap_alloc _ _ w.heap.size (by simp)).trans (heap_alloc_new w _)
      fen := by rw [part_zero]; exact Fen.zeros _
      vd := part_vd HV.out 0 (by omega) }
  have H0 := Lib.hid h0
  have B0 : Hid (Below w.heap.size w ((w.alloc (.cells (ints (List.replicate (zs.length + 1) 0)) 2)).alloc (.cells #[.slice (some ⟨w.heap.size, 0, none⟩) (zs.length + 1) (zs.length + 1)] 71))) :=
    Lib.hid (((Below.refl _ _).alloc (Nat.le_refl _) _).alloc (by simp) _)
  clear h0
  go_loopw [20] (fun k wr => ∃ (j : Nat) (s : List Int), k = .int .i64 j ∧ j ≤ zs.length ∧ Hid (Tr wr (w.heap.size + 1) w.heap.size (part zs j) s) ∧ Hid (Below w.heap.size w wr)) (fun k _ => zs.length - (intOf k).toNat)
  case atStart => exact ⟨0, _, rfl, Nat.zero_le _, H0, B0⟩
  case round =>
    obtain ⟨j, s, rfl, hj, HT, HB⟩ := hrel
    by_cases hlt : j < zs.length
    · have hp := part_len zs j hj
      have hlp : j < (part zs j).length := by omega
      obtain ⟨b, o, rfl, hb, hc⟩ := HR.out.below HB.out j hlt
      have hsucc := part_succ hlt hlp
      have HA : Hid (Calls Try.prog 41 #[.pointer (some ⟨w.heap.size + 1, 0, none⟩), .int .i64 j, .int .i64 zs[j]] wr (Added wr (w.heap.size + 1) w.heap.size (part zs (j + 1)))) := Lib.hid (by
        have := add_tree HT.out j hlp zs[j] (by rw [hsucc]; exact part_vd HV.out (j + 1) hlt)
        rw [hsucc] at this
        exact this)
      clear hsucc hlp hp
      generalize zs[j] = v at *
      go_wp2_with fail
      refine HA.out.mono ?_
      rintro e w2 ⟨rfl, s2, HT2, hg⟩
      have HT2' := Lib.hid HT2
      have HB2 := Lib.hid (HB.out.grown hg HB.out.size (by intro g h; injection h with h; omega))
      clear HT2 hg
      go_wp2_with fail
      go_roundw
      case rel => exact ⟨j + 1, s2, by go_num, by omega, HT2', HB2⟩
      case measure => simp [intOf]; omega
    · obtain rfl : j = zs.length := by omega
      rw [part_all] at HT
      go_wp2_with fail
      go_ret2
      exact ⟨_, _, s, rfl, HT.out, by omega, Nat.le_refl _, HB.out⟩
end Go.Proofs.Ytfkjnepafgehiaa
