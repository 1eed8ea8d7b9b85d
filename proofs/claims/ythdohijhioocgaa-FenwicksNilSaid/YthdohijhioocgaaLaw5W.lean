/- The walk of the law FenwicksNil. -/
import Derived.Test.YthdohijhioocgaaLaw1W
namespace Go.Proofs.Ythdohijhioocgaa
open Go.RowKit

def At2 (v : Value) : Prop := v = .int .i64 0 ∨ v = .int .i64 1 ∨ v = .int .i64 2
theorem NoTree.drewN {w : World} {p : Option Addr} (h : NoTree w p) (n : Nat) : NoTree (w.drewN n) p := h
/-- the list of both trees that are none -/
structure Two (w : World) (g z : Nat) : Prop where
  c0 : w.cell? ⟨g, 0, none⟩ = some (.pointer none)
  c1 : w.cell? ⟨g, 1, none⟩ = some (.pointer (some ⟨z, 0, none⟩))
  z : w.heap[z]? = some (.cells #[.slice none 0 0] 52 (0, 0))
  lt : g < w.heap.size
theorem Two.below {w w' : World} {g z : Nat} (h : Two w g z) (hb : Below w.heap.size w w') : Two w' g z :=
  ⟨(hb.cell (p := ⟨g, 0, none⟩) h.lt).trans h.c0, (hb.cell (p := ⟨g, 1, none⟩) h.lt).trans h.c1, (hb.block z (lt_of_block h.z)).trans h.z, by have := hb.size; have := h.lt; omega⟩
theorem two_new (w : World) : Two ((w.alloc (.cells #[.slice none 0 0] 52)).alloc (.cells #[.pointer none, .pointer (some ⟨w.heap.size, 0, none⟩)] 25)) (w.heap.size + 1) w.heap.size := by
  have h := heap_alloc_new (w.alloc (.cells #[.slice none 0 0] 52)) (.cells #[.pointer none, .pointer (some ⟨w.heap.size, 0, none⟩)] 25)
  have h' : ((w.alloc (.cells #[.slice none 0 0] 52)).alloc (.cells #[.pointer none, .pointer (some ⟨w.heap.size, 0, none⟩)] 25)).heap[w.heap.size + 1]? = some (.cells #[.pointer none, .pointer (some ⟨w.heap.size, 0, none⟩)] 25 (0, 0)) := by simpa using h
  exact ⟨by rw [cell_of_row _ (w.heap.size + 1) 0 _ 25 (0, 0) h']; rfl, by rw [cell_of_row _ (w.heap.size + 1) 1 _ 25 (0, 0) h']; rfl,
    (Below.heap_alloc _ _ w.heap.size (by simp)).trans (heap_alloc_new w _), by simp⟩

set_option maxRecDepth 100000 in
set_option maxHeartbeats 2000000 in
theorem law5_any (hL : LivesOk) (i x : Int) (w : World) :
    Calls Try.prog 7 #[.int .i64 i, .int .i64 x] w fun e w' => e = .returned (.bool true) ∧ Below w.heap.size w w' := by
  have HL := Lib.hid hL; clear hL
  have H0 := Lib.hid (two_new w)
  have B0 : Hid (Below w.heap.size w ((w.alloc (.cells #[.slice none 0 0] 52)).alloc (.cells #[.pointer none, .pointer (some ⟨w.heap.size, 0, none⟩)] 25))) := Lib.hid (((Below.refl _ _).alloc (Nat.le_refl _) _).alloc (by simp) _)
  go_enter Try.func7, Try.ntmps7
  go_wp2_with fail
  go_loopw [7] (fun k wr => At2 k ∧ Hid (Two wr (w.heap.size + 1) w.heap.size) ∧ Hid (Below w.heap.size w wr)) (fun k _ => 2 - (intOf k).toNat)
  case atStart => exact ⟨.inl rfl, H0, B0⟩
  case round =>
    obtain ⟨hk, HT, HB⟩ := hrel
    rcases hk with rfl | rfl | rfl
    · have g0 := HT.out.c0
      have hN : Hid (NoTree wr none) := Lib.hid (.inl rfl)
      have k19 := Lib.hid (at_none i hN.out)
      go_wp2_with fail
      refine k19.out.mono ?_
      rintro e w' ⟨rfl, n, rfl⟩
      have k18 := Lib.hid (sum_none i (hN.out.drewN n))
      have k23 := Lib.hid (set_none i x (hN.out.drewN n))
      go_wp2_with fail
      refine k18.out.mono ?_
      rintro e w' ⟨rfl, rfl⟩
      go_wp2_with fail
      refine k23.out.mono ?_
      rintro e w' ⟨rfl, m, rfl⟩
      have hN2 : Hid (NoTree (wr.drewN (n + m)) none) := Lib.hid (.inl rfl)
      have k20 := Lib.hid (find_none x hN2.out)
      have k13 := Lib.hid (len_none hN2.out)
      have k14 := Lib.hid (total_none hN2.out)
      have k17 := Lib.hid (list_none hN2.out)
      go_wp2_with fail
      refine k20.out.mono ?_
      rintro e w' ⟨rfl, rfl⟩
      go_wp2_with fail
      refine k13.out.mono ?_
      rintro e w' ⟨rfl, rfl⟩
      go_wp2_with fail
      refine k14.out.mono ?_
      rintro e w' ⟨rfl, rfl⟩
      go_wp2_with fail
      refine k17.out.mono ?_
      rintro e w2 ⟨⟨A, rfl⟩, hb2⟩
      have hb2' : Below wr.heap.size wr w2 := ⟨hb2.os, hb2.tape, hb2.output, hb2.size, hb2.block⟩
      have HT2 := Lib.hid (HT.out.below hb2')
      have HB2 := Lib.hid (HB.out.trans (hb2'.mono HB.out.size))
      clear hb2 hb2' g0
      go_wp2_with fail
      go_roundw
      case rel => exact ⟨.inr (.inl rfl), HT2, HB2⟩
      case measure => decide
    · have g1 := HT.out.c1
      have hN : Hid (NoTree wr (some ⟨w.heap.size, 0, none⟩)) := Lib.hid (.inr ⟨_, rfl, HT.out.z⟩)
      have k19 := Lib.hid (at_none i hN.out)
      go_wp2_with fail
      refine k19.out.mono ?_
      rintro e w' ⟨rfl, n, rfl⟩
      have k18 := Lib.hid (sum_none i (hN.out.drewN n))
      have k23 := Lib.hid (set_none i x (hN.out.drewN n))
      go_wp2_with fail
      refine k18.out.mono ?_
      rintro e w' ⟨rfl, rfl⟩
      go_wp2_with fail
      refine k23.out.mono ?_
      rintro e w' ⟨rfl, m, rfl⟩
      have hN2 : Hid (NoTree (wr.drewN (n + m)) (some ⟨w.heap.size, 0, none⟩)) := Lib.hid (hN.out.drewN (n + m))
      have k20 := Lib.hid (find_none x hN2.out)
      have k13 := Lib.hid (len_none hN2.out)
      have k14 := Lib.hid (total_none hN2.out)
      have k17 := Lib.hid (list_none hN2.out)
      go_wp2_with fail
      refine k20.out.mono ?_
      rintro e w' ⟨rfl, rfl⟩
      go_wp2_with fail
      refine k13.out.mono ?_
      rintro e w' ⟨rfl, rfl⟩
      go_wp2_with fail
      refine k14.out.mono ?_
      rintro e w' ⟨rfl, rfl⟩
      go_wp2_with fail
      refine k17.out.mono ?_
      rintro e w2 ⟨⟨A, rfl⟩, hb2⟩
      have hb2' : Below wr.heap.size wr w2 := ⟨hb2.os, hb2.tape, hb2.output, hb2.size, hb2.block⟩
      have HT2 := Lib.hid (HT.out.below hb2')
      have HB2 := Lib.hid (HB.out.trans (hb2'.mono HB.out.size))
      clear hb2 hb2' g1
      go_wp2_with fail
      go_roundw
      case rel => exact ⟨.inr (.inr rfl), HT2, HB2⟩
      case measure => decide
    · go_wp2_with fail
      refine (HL.out _).mono ?_
      rintro e w3 ⟨rfl, hb3⟩
      have HB3 := Lib.hid (HB.out.trans (hb3.mono HB.out.size))
      clear hb3
      go_wp2_with fail
      go_ret
      exact ⟨rfl, HB3.out⟩
end Go.Proofs.Ythdohijhioocgaa
