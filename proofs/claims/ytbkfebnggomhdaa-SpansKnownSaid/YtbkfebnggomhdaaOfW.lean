/- The walk of Of. -/
import Derived.Test.YtbkfebnggomhdaaSortW
import Derived.Test.YtbkfebnggomhdaaAddW
import Derived.Test.YtbkfebnggomhdaaResW
namespace Go.Proofs.Ytbkfebnggomhdaa
open Go.RowKit

/-- the set of some places in ascending order, so far -/
structure OfI (done : List Int) (out : List Sp) : Prop where
  vo : Val (-1) out
  ho : ∀ i, hasB out i = decide (i ∈ done)
  last : ∀ y, (∀ z ∈ done, z ≤ y) → LastLe out y (y + 1)
theorem OfI.start : OfI [] [] := ⟨trivial, fun _ => rfl, fun _ _ => .nil⟩
theorem OfI.step {done : List Int} {out : List Sp} {x : Int} (h : OfI done out) (hx : ∀ z ∈ done, z ≤ x) (h0 : 0 ≤ x) (h1 : x < 1073741824) : OfI (done ++ [x]) (addS out (x, x + 1)) := by
  obtain ⟨g1, g2, g3⟩ := addS_set (out := out) (p := x) (q := x + 1) h.vo (fun _ => ⟨h0, by omega, h.last x hx⟩)
  refine ⟨g1, fun i => ?_, fun y hy => (g3 (by omega)).mono (hy x (by simp)) (by have := hy x (by simp); omega)⟩
  rw [g2 i, h.ho i, Bool.eq_iff_iff]
  simp only [Bool.or_eq_true, decide_eq_true_eq, List.mem_append, List.mem_singleton]
  constructor
  · rintro (hh | hh)
    · exact .inl hh
    · exact .inr (by omega)
  · rintro (hh | hh)
    · exact .inl hh
    · exact .inr (by omega)

def sorted (zs : List Int) : List Int := zs.mergeSort fun x y => decide (x ≤ y)
theorem sorted_len (zs : List Int) : (sorted zs).length = zs.length := by simp [sorted]
theorem sorted_mem {zs : List Int} {x : Int} : x ∈ sorted zs ↔ x ∈ zs := by simp [sorted]
theorem sorted_pw (zs : List Int) : (sorted zs).Pairwise (· ≤ ·) := by
  have := List.pairwise_mergeSort (le := fun (x y : Int) => decide (x ≤ y)) (by intro a b c; simp; omega) (by intro a b; simp; omega) zs
  simpa [sorted] using this
theorem sorted_le {zs : List Int} {i j : Nat} (hij : i ≤ j) (hj : j < (sorted zs).length) : (sorted zs)[i] ≤ (sorted zs)[j] := by
  rcases Nat.lt_or_ge i j with h | h
  · exact List.pairwise_iff_getElem.1 (sorted_pw zs) i j _ hj h
  · obtain rfl : i = j := by omega
    exact Int.le_refl _
theorem sorted_take {zs : List Int} {k : Nat} (hk : k < (sorted zs).length) : ∀ z ∈ (sorted zs).take k, z ≤ (sorted zs)[k] := by
  intro z hz
  obtain ⟨i, hi, rfl⟩ := List.getElem_of_mem hz
  rw [List.getElem_take]
  exact sorted_le (by simp at hi; omega) hk

/-- are all places from 0 to the greatest one -/
def InR (zs : List Int) : Prop := ∀ z ∈ zs, 0 ≤ z ∧ z < 1073741824

theorem cell1_new (w : World) (a : Value) (t : TypeId) : (w.alloc (.cells #[a] t)).cell? ⟨w.heap.size, 0, none⟩ = some a := by
  rw [cell_of_row _ _ _ _ _ (0, 0) (heap_alloc_new w _)]; rfl
set_option maxRecDepth 100000 in
set_option maxHeartbeats 2000000 in
theorem of_nil (hS : SortsOk) (A : Option Addr) (c : Nat) (w : World) (hr : RdI w w.heap.size A []) :
    Calls Try.prog 16 #[.slice A 0 c] w fun e w' => SetRes (fun i => decide (i ∈ ([] : List Int))) e w' ∧ Below w.heap.size w w' := by
  have hl : ([] : List Int).length ≤ 1000000 := by simp
  have h31 := Lib.hid (callsIn_wide.1 (values_in Fence.wide 1 trivial rfl A 0 c w))
  have h30 := Lib.hid (sorted_any hS w.heap.size c A [] hl (w.alloc (.cells #[.slice A 0 c] 34)) (by simp) (cell1_new _ _ _) ((hr.below (Below.alloc (Below.refl _ _) (Nat.le_refl _) _)).more (by simp)))
  clear hS
  simp only [List.length_nil] at h30
  go_enter Try.func16, Try.ntmps16
  go_wp2_with fail
  refine h31.out.mono ?_
  rintro e w1 ⟨rfl, rfl⟩
  go_wp2_with fail
  refine h30.out.mono ?_
  rintro e w2 ⟨A', c', rfl, hc', hrs, hb⟩
  have hb2 : Below w.heap.size w w2 := (Below.alloc (Below.refl _ _) (Nat.le_refl _) _).trans (hb.mono (by simp))
  have hfin := OfI.start.ho
  clear hrs hb
  go_wp2_with fail
  go_loopw [6, 32] (fun uo ui wr => uo = .slice none 0 0 ∧ ui = .int .i64 0 ∧ Below w.heap.size w wr) (fun _ _ _ => 0)
  case atStart => exact ⟨rfl, rfl, hb2⟩
  case round =>
    obtain ⟨rfl, rfl, hb⟩ := hrel
    go_wp2_with (refine (result_ok none 0 0 _ (Nat.le_refl _) (by omega)).mono ?_; rintro e w3 ⟨rfl, rfl⟩)
    go_ret2
    exact ⟨⟨[], trivial, hfin, .inl ⟨by simp, none, rfl, Rd.nil⟩⟩, hb⟩

set_option maxRecDepth 100000 in
set_option maxHeartbeats 2000000 in
theorem of_ok (hS : SortsOk) (A : Option Addr) (c : Nat) (zs : List Int) (w : World) (hr : RdI w w.heap.size A zs) (hpos : 0 < zs.length) (hl : zs.length ≤ 1000000) (hR : InR zs) :
    Calls Try.prog 16 #[.slice A zs.length c] w fun e w' => SetRes (fun i => decide (i ∈ zs)) e w' ∧ Below w.heap.size w w' := by
  have h31 := Lib.hid (callsIn_wide.1 (values_in Fence.wide 1 trivial rfl A zs.length c w))
  have h30 := Lib.hid (sorted_any hS w.heap.size c A zs hl (w.alloc (.cells #[.slice A zs.length c] 34)) (by simp) (cell1_new _ _ _) ((hr.below (Below.alloc (Below.refl _ _) (Nat.le_refl _) _)).more (by simp)))
  clear hS
  have HR := Lib.hid hR
  clear hR
  go_enter Try.func16, Try.ntmps16
  go_wp2_with fail
  refine h31.out.mono ?_
  rintro e w1 ⟨rfl, rfl⟩
  go_wp2_with fail
  refine h30.out.mono ?_
  rintro e w2 ⟨A', c', rfl, hc', hrs, hb⟩
  have hb2 : Below w.heap.size w w2 := (Below.alloc (Below.refl _ _) (Nat.le_refl _) _).trans (hb.mono (by simp))
  have hss : Hid ((sorted zs).length = zs.length) := sorted_len zs
  have hrs' : RdI w2 w2.heap.size A' (sorted zs) := hrs
  clear hrs hb
  have hkl : 0 < (sorted zs).length := by rw [hss.out]; exact hpos
  have hkL : zs.length - 1 < (sorted zs).length := by rw [hss.out]; omega
  obtain ⟨b, o, hA, hbl, c0⟩ := hrs' 0 hkl
  subst hA
  obtain ⟨b2, o2, hA2, _, c1⟩ := hrs' (zs.length - 1) hkL
  obtain ⟨rfl, rfl⟩ : b = b2 ∧ o = o2 := by injection hA2 with hA; injection hA with h1 h2; exact ⟨h1, h2⟩
  clear hA2
  simp only [Nat.add_zero] at c0
  have q0 := (HR.out _ (sorted_mem.1 (List.getElem_mem hkl))).1
  have q1 := (HR.out _ (sorted_mem.1 (List.getElem_mem hkL))).2
  generalize (sorted zs)[0] = x0 at *
  generalize (sorted zs)[zs.length - 1] = x1 at *
  have hd1 : decide ((1 : Int) ≤ (zs.length : Int)) = true := by simp; omega
  have hx0 : (0 : Int) ≤ (zs.length : Int) - 1 := by omega
  have hx1 : (zs.length : Int) - 1 < (zs.length : Int) := by omega
  have hx2 : (1 : Int) ≤ (zs.length : Int) := by omega
  go_wp2_with fail
  clear hd1 c0 c1
  go_loopw [6, 32] (fun uo ui wr => ∃ (k : Nat) (out : List Sp), ui = .int .i64 k ∧ k ≤ zs.length ∧ Own wr w2.heap.size 28 uo out ∧ OfI ((sorted zs).take k) out ∧ Below w2.heap.size w2 wr) (fun _ ui _ => zs.length - (intOf ui).toNat)
  case atStart => exact ⟨0, [], rfl, Nat.zero_le _, World.ownsRow_nil _ _ _ _, OfI.start, Below.refl _ _⟩
  case round =>
    obtain ⟨k, out, rfl, hk, ho, hs, hb⟩ := hrel
    by_cases hlt : k < zs.length
    · have hlt' : k < (sorted zs).length := by rw [hss.out]; exact hlt
      obtain ⟨b2, o2, hA2, _, d0⟩ := hrs'.below hb k hlt'
      obtain ⟨rfl, rfl⟩ : b = b2 ∧ o = o2 := by injection hA2 with hA; injection hA with h1 h2; exact ⟨h1, h2⟩
      clear hA2
      have htk := Lib.hid (take_snocI (sorted zs) k hlt')
      obtain ⟨m0, m1⟩ := HR.out _ (sorted_mem.1 (List.getElem_mem hlt'))
      have hs' := hs.step (sorted_take hlt') m0 m1
      rw [← htk.out] at hs'
      have hl2 := val_len' hs.vo
      generalize (sorted zs)[k] = x at *
      clear hs
      go_wp2_with fail
      refine (add_any w2.heap.size _ out x (x + 1) _ ho hb.size (by omega)).mono ?_
      rintro e w3 ⟨v3, rfl, ho3, hg3⟩
      have hb3 : Below w2.heap.size w2 w3 := hg3.below hb hb.size (fun k h => (ho.lt k h).1)
      clear hg3
      go_wp2_with fail
      go_roundw
      case rel => exact ⟨k + 1, _, by go_num, by omega, ho3, hs', hb3⟩
      case measure => simp [intOf]; omega
    · obtain ⟨B, d, rfl, hd, hrd⟩ := ho.rd
      have hfin : ∀ i, hasB out i = decide (i ∈ zs) := fun i => by
        rw [hs.ho i, List.take_of_length_le (by rw [hss.out]; omega)]
        exact decide_eq_decide.2 sorted_mem
      have hvo := hs.vo
      have hlen2 := val_len' hvo
      have hbb : Below w.heap.size w wr := hb2.trans (hb.mono hb2.size)
      clear hs
      by_cases h4 : out.length ≤ 4096
      · go_wp2_with (refine (result_ok _ _ _ _ hd h4).mono ?_; rintro e w3 ⟨rfl, rfl⟩)
        go_ret2
        exact ⟨⟨out, hvo, hfin, .inl ⟨h4, B, rfl, hrd⟩⟩, hbb⟩
      · go_wp2_with (refine (result_no _ _ _ _ (by omega) (by omega)).mono ?_; rintro e w3 ⟨rfl, rfl⟩)
        go_ret2
        exact ⟨⟨out, hvo, hfin, .inr ⟨by omega, rfl⟩⟩, hbb⟩

set_option maxRecDepth 100000 in
set_option maxHeartbeats 2000000 in
theorem of_bad (hS : SortsOk) (A : Option Addr) (c : Nat) (zs : List Int) (w : World) (hr : RdI w w.heap.size A zs) (hpos : 0 < zs.length) (hl : zs.length ≤ 1000000) (hR : ¬ InR zs) :
    Calls Try.prog 16 #[.slice A zs.length c] w fun e w' => e = .returned (.tuple #[.slice none 0 0, .int .i64 4]) ∧ Below w.heap.size w w' := by
  have h31 := Lib.hid (callsIn_wide.1 (values_in Fence.wide 1 trivial rfl A zs.length c w))
  have h30 := Lib.hid (sorted_any hS w.heap.size c A zs hl (w.alloc (.cells #[.slice A zs.length c] 34)) (by simp) (cell1_new _ _ _) ((hr.below (Below.alloc (Below.refl _ _) (Nat.le_refl _) _)).more (by simp)))
  clear hS
  have HR := Lib.hid hR
  clear hR
  go_enter Try.func16, Try.ntmps16
  go_wp2_with fail
  refine h31.out.mono ?_
  rintro e w1 ⟨rfl, rfl⟩
  go_wp2_with fail
  refine h30.out.mono ?_
  rintro e w2 ⟨A', c', rfl, hc', hrs, hb⟩
  have hb2 : Below w.heap.size w w2 := (Below.alloc (Below.refl _ _) (Nat.le_refl _) _).trans (hb.mono (by simp))
  have hss : Hid ((sorted zs).length = zs.length) := sorted_len zs
  have hrs' : RdI w2 w2.heap.size A' (sorted zs) := hrs
  clear hrs hb
  have hkl : 0 < (sorted zs).length := by rw [hss.out]; exact hpos
  have hkL : zs.length - 1 < (sorted zs).length := by rw [hss.out]; omega
  obtain ⟨b, o, hA, hbl, c0⟩ := hrs' 0 hkl
  subst hA
  obtain ⟨b2, o2, hA2, _, c1⟩ := hrs' (zs.length - 1) hkL
  obtain ⟨rfl, rfl⟩ : b = b2 ∧ o = o2 := by injection hA2 with hA; injection hA with h1 h2; exact ⟨h1, h2⟩
  clear hA2
  simp only [Nat.add_zero] at c0
  have hbad : (sorted zs)[0] < 0 ∨ 1073741824 ≤ (sorted zs)[zs.length - 1] := by
    apply Classical.byContradiction
    intro hno
    refine HR.out fun z hz => ?_
    obtain ⟨i, hi, rfl⟩ := List.getElem_of_mem (sorted_mem.2 hz)
    have h1 := sorted_le (zs := zs) (Nat.zero_le i) hi
    have h2 := sorted_le (zs := zs) (i := i) (j := zs.length - 1) (by have := hss.out; omega) hkL
    omega
  generalize (sorted zs)[0] = x0 at *
  generalize (sorted zs)[zs.length - 1] = x1 at *
  have hd1 : decide ((1 : Int) ≤ (zs.length : Int)) = true := by simp; omega
  have hx0 : (0 : Int) ≤ (zs.length : Int) - 1 := by omega
  have hx1 : (zs.length : Int) - 1 < (zs.length : Int) := by omega
  have hx2 : (1 : Int) ≤ (zs.length : Int) := by omega
  by_cases h0 : x0 < 0
  · go_wp2_with fail
    go_ret2
    exact ⟨rfl, hb2⟩
  · have h3 : 1073741824 ≤ x1 := by omega
    have h4 : 0 ≤ x0 := by omega
    clear h0 hbad
    go_wp2_with fail
    go_ret2
    exact ⟨rfl, hb2⟩
end Go.Proofs.Ytbkfebnggomhdaa
