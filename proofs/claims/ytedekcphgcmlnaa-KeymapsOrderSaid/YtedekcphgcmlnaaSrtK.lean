/- Sorting numbers: patterns are broken. -/
import Derived.Test.YtedekcphgcmlnaaSrtJ
import Derived.Test.YtedekcphgcmlnaaSrtD
namespace Go.Proofs.Ytedekcphgcmlnaa
open Go.RowKit Go.Sort

/-- the generator's state in block s -/
structure Xs (w0 w : World) (s : Nat) (z : Int) : Prop where
  cell : w.heap[s]? = some (.cells #[.int .u64 z] 78 (0, 0))
  fr : Fr w0 w s s
  lo : 0 ≤ z
  hi : z < 18446744073709551616
theorem Xs.set {w0 w : World} {s : Nat} {z : Int} (h : Xs w0 w s z) (x y : Int) (n : Nat) : Xs w0 (World.drewN (w.setCell ⟨s, 0, none⟩ (.int .u64 (bits .xor .u64 x y))) n) s (bits .xor .u64 x y) := by
  have hb : ∃ t, bits .xor .u64 x y = IntKind.u64.wrap t := ⟨_, rfl⟩
  obtain ⟨t, ht⟩ := hb
  rw [ht, IntKind.wrap_u64]
  refine ⟨?_, (h.fr.setCell (.inl rfl) _).drewN _, by omega, by omega⟩
  show ((w.setCell ⟨s, 0, none⟩ _).heap[s]?) = _
  simp [World.setCell, Array.getElem?_modify, h.cell]
theorem Xs.reads {w0 w : World} {s : Nat} {z : Int} (h : Xs w0 w s z) : w.cell? ⟨s, 0, none⟩ = some (.int .u64 z) ∧ w.frozen? ⟨s, 0, none⟩ = false := ⟨cell_of_row _ _ 0 _ 78 (0, 0) h.cell, frozen_of_row w s 0 _ 78 h.cell⟩
set_option maxRecDepth 100000 in
set_option maxHeartbeats 4000000 in
theorem next_any {w0 w : World} {s : Nat} {z : Int} (h : Xs w0 w s z) :
    Calls Try.prog 47 #[.pointer (some ⟨s, 0, none⟩)] w fun e w' => ∃ z' : Int, e = .returned (.int .u64 z') ∧ Xs w0 w' s z' := by
  obtain ⟨s0, s1⟩ := h.reads
  have h0 := h.lo
  have h1 := h.hi
  have HX := Lib.hid h
  clear h
  go_enter Try.func47, Try.ntmps47
  go_upto_region 1 with fail
  go_region
  have H2 := Lib.hid (HX.out.set z (IntKind.u64.wrap (z * 8192)) 1)
  generalize bits BinOp.xor IntKind.u64 z (IntKind.u64.wrap (z * 8192)) = z1 at H2 ⊢
  obtain ⟨V, hV⟩ : ∃ V : World, (w.setCell ⟨s, 0, none⟩ (.int .u64 z1)).drew = V := ⟨_, rfl⟩
  rw [hV]
  have H3 : Hid (Xs w0 V s z1) := Lib.hid (by rw [← hV]; exact H2.out)
  clear hV H2 HX s0 s1 h0 h1
  obtain ⟨s0, s1⟩ := H3.out.reads
  have h0 := H3.out.lo
  have h1 := H3.out.hi
  go_upto_region 2 with fail
  go_region
  have H4 := Lib.hid (H3.out.set z1 (z1 / 128) 1)
  generalize bits BinOp.xor IntKind.u64 z1 (z1 / 128) = z2 at H4 ⊢
  obtain ⟨V2, hV⟩ : ∃ V2 : World, (V.setCell ⟨s, 0, none⟩ (.int .u64 z2)).drew = V2 := ⟨_, rfl⟩
  rw [hV]
  have H5 : Hid (Xs w0 V2 s z2) := Lib.hid (by rw [← hV]; exact H4.out)
  clear hV H4 H3 s0 s1 h0 h1
  obtain ⟨s0, s1⟩ := H5.out.reads
  have h0 := H5.out.lo
  have h1 := H5.out.hi
  go_upto_region 3 with fail
  go_region
  have H6 := Lib.hid (H5.out.set z2 (IntKind.u64.wrap (z2 * 131072)) 1)
  generalize bits BinOp.xor IntKind.u64 z2 (IntKind.u64.wrap (z2 * 131072)) = z3 at H6 ⊢
  obtain ⟨V3, hV⟩ : ∃ V3 : World, (V2.setCell ⟨s, 0, none⟩ (.int .u64 z3)).drew = V3 := ⟨_, rfl⟩
  rw [hV]
  have H7 : Hid (Xs w0 V3 s z3) := Lib.hid (by rw [← hV]; exact H6.out)
  clear hV H6 H5 s0 s1 h0 h1
  obtain ⟨s0, s1⟩ := H7.out.reads
  go_wp2_with fail
  go_ret
  exact ⟨z3, rfl, H7.out⟩
theorem pow_le (l : Nat) (h0 : 0 < l) (h : l < 2 ^ 64) : 2 ^ Lib.bitLen l ≤ 2 * l := by
  induction l using Nat.strongRecOn with
  | _ l ih =>
    rw [Lib.bitLen_half l (by omega) h]
    rcases Nat.lt_or_ge l 2 with h2 | h2
    · obtain rfl : l = 1 := by omega
      decide
    · have := ih (l / 2) (by omega) (by omega) (by omega)
      rw [Nat.add_comm, Nat.pow_succ]
      omega
theorem pow_any {w : World} {l : Nat} (h0 : 0 < l) (h : l ≤ 1000000) :
    Calls Try.prog 46 #[.int .i64 l] w fun e w' => ∃ k : Nat, e = .returned (.int .u64 ((2 ^ k : Nat) : Int)) ∧ 2 ^ k ≤ 2 * l ∧ k ≤ 20 ∧ w' = w := by
  have HL := Lib.hid (fun w => Try.bits_Len (l : Int) w (by omega) (by omega))
  have hw : IntKind.u64.wrap (l : Int) = l := by rw [IntKind.wrap_u64]; omega
  have hp := pow_le l h0 (by omega)
  have HP := Lib.hid hp
  go_enter Try.func46, Try.ntmps46
  go_wp2_with fail
  refine (HL.out _).mono ?_
  rintro e w1 ⟨rfl, rfl⟩
  obtain ⟨k, hk⟩ : ∃ k, Lib.bitLen (Int.toNat (l : Int)) = k := ⟨_, rfl⟩
  rw [hk]
  rw [Int.toNat_natCast] at hk
  rw [hk] at hp HP
  have hk2 : k ≤ 20 := by
    rcases Nat.lt_or_ge 20 k with h1 | h1
    · have : 2 ^ 21 ≤ 2 ^ k := Nat.pow_le_pow_right (by decide) h1
      omega
    · exact h1
  have hc : ((2 : Int) ^ k) = ((2 ^ k : Nat) : Int) := by simp
  have hw2 : IntKind.u64.wrap ((2 : Int) ^ k) = ((2 ^ k : Nat) : Int) := by
    rw [hc, IntKind.wrap_u64]
    generalize 2 ^ k = M at hp
    omega
  have HW2 := Lib.hid hw2
  clear hp hk hw2 hc
  go_wp2_with fail
  go_ret
  exact ⟨k, by rw [HW2.out]; rfl, HP.out, hk2, rfl⟩
theorem and_pow (z : Int) (k : Nat) (hk : k ≤ 20) (h0 : 0 ≤ z) (h1 : z < 18446744073709551616) : bits .and .u64 z (((2 ^ k : Nat) : Int) - 1) = z % ((2 ^ k : Nat) : Int) := by
  have := bits_mask .u64 64 (Nat.le_refl _) (fun n h0 h1 => by rw [IntKind.wrap_u64]; omega) k (by omega) z h0 (by simpa using h1)
  simpa using this
/-- the row and the generator's state -/
structure BI (w wr : World) (g s n a b : Nat) (d0 d : Array Int) (z : Int) : Prop where
  row : RA wr g d
  xs : Xs wr wr s z
  fr : Fr w wr g s
  size : d.size = n
  ne : g ≠ s
  perm : PermIn a b d0 d
theorem BI.next {w wr w' : World} {g s n a b : Nat} {d0 d : Array Int} {z z' : Int} (h : BI w wr g s n a b d0 d z) (k : Xs wr w' s z') (hg : g < wr.heap.size) : BI w w' g s n a b d0 d z' :=
  ⟨h.row.keep (k.fr.block g hg h.ne h.ne), ⟨k.cell, Fr.refl _ _ _, k.lo, k.hi⟩, h.fr.trans ⟨k.fr.os, k.fr.tape, k.fr.output, k.fr.size, fun i hi _ h2 => k.fr.block i hi h2 h2⟩, h.size, h.ne, h.perm⟩
theorem BI.swp {w wr : World} {g s n a b : Nat} {d0 d : Array Int} {z : Int} (h : BI w wr g s n a b d0 d z) (hb : b ≤ n) {i j : Nat} (h1 : a ≤ i) (h2 : i < b) (h3 : a ≤ j) (h4 : j < b) (m : Nat) :
    BI w (World.drewN ((wr.setCell ⟨g, i, none⟩ (.int .u64 d[j]!)).setCell ⟨g, j, none⟩ (.int .u64 d[i]!)) m) g s n a b d0 (Go.Sort.swp d i j) z := by
  have e : ((wr.setCell ⟨g, i, none⟩ (.int .u64 d[j]!)).setCell ⟨g, j, none⟩ (.int .u64 d[i]!)).heap[s]? = wr.heap[s]? := by
    rw [Below.heap_setCell _ _ _ s (fun e => h.ne e.symm), Below.heap_setCell _ _ _ s (fun e => h.ne e.symm)]
  refine ⟨h.row.swp i j, ⟨?_, Fr.refl _ _ _, h.xs.lo, h.xs.hi⟩, ((h.fr.setCell (.inl rfl) _).setCell (.inl rfl) _).drewN _, by rw [swp_size]; exact h.size, h.ne, ?_⟩
  · exact e.trans h.xs.cell
  · exact permIn_trans _ _ _ _ _ h.perm (swp_permIn d a b i j h1 h2 h3 h4 (by rw [h.size]; exact hb))
theorem BI.two {w wr : World} {g s n a b : Nat} {d0 d : Array Int} {z : Int} (h : BI w wr g s n a b d0 d z) (hb : b ≤ n) {i j : Nat} (h1 : a ≤ i) (h2 : i < b) (h3 : a ≤ j) (h4 : j < b) :
    ∃ p q : Int, d[i]! = p ∧ d[j]! = q ∧ wr.cell? ⟨g, i, none⟩ = some (.int .u64 p) ∧ wr.cell? ⟨g, j, none⟩ = some (.int .u64 q) ∧ wr.frozen? ⟨g, i, none⟩ = false ∧ wr.frozen? ⟨g, j, none⟩ = false ∧
      Hid (∀ m, BI w (World.drewN ((wr.setCell ⟨g, i, none⟩ (.int .u64 q)).setCell ⟨g, j, none⟩ (.int .u64 p)) m) g s n a b d0 (Go.Sort.swp d i j) z) := by
  have e1 : i < d.size := by rw [h.size]; omega
  have e2 : j < d.size := by rw [h.size]; omega
  exact ⟨_, _, rfl, rfl, h.row.cell e1, h.row.cell e2, h.row.frozen i, h.row.frozen j, Lib.hid (h.swp hb h1 h2 h3 h4)⟩
theorem BI.si {w wr : World} {g n a b : Nat} {d0 d : Array Int} {z : Int} (h : BI w wr g w.heap.size n a b d0 d z) : SI w wr g n d :=
  ⟨h.row, ⟨h.fr.os, h.fr.tape, h.fr.output, h.fr.size, fun i hi h1 _ => h.fr.block i hi h1 (by omega)⟩, h.size⟩
end Go.Proofs.Ytedekcphgcmlnaa
