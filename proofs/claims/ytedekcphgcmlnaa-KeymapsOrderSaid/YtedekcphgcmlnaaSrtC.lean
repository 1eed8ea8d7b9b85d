/- Sorting numbers: the pivot. -/
import Derived.Test.YtedekcphgcmlnaaSrtB
namespace Go.Proofs.Ytedekcphgcmlnaa
open Go.RowKit Go.Sort

/-- the row holds d; the count of swaps lies in block s -/
structure SwI (w wr : World) (g s n : Nat) (d : Array Int) : Prop where
  row : RA wr g d
  sw : ∃ z, wr.heap[s]? = some (.cells #[.int .i64 z] 3 (0, 0))
  fr : Fr w wr s s
  size : d.size = n
  ne : g ≠ s
theorem SwI.drewN {w wr : World} {g s n : Nat} {d : Array Int} (h : SwI w wr g s n d) (k : Nat) : SwI w (wr.drewN k) g s n d := ⟨h.row, h.sw, h.fr.drewN k, h.size, h.ne⟩
theorem SwI.set {w wr : World} {g s n : Nat} {d : Array Int} (h : SwI w wr g s n d) (z : Int) : SwI w (wr.setCell ⟨s, 0, none⟩ (.int .i64 z)) g s n d := by
  obtain ⟨z0, h0⟩ := h.sw
  exact ⟨h.row.keep (Below.heap_setCell _ _ _ g h.ne), ⟨z, by simp [World.setCell, Array.getElem?_modify, h0]⟩, h.fr.setCell (.inl rfl) _, h.size, h.ne⟩
set_option maxRecDepth 100000 in
set_option maxHeartbeats 4000000 in
theorem order2_any {w0 w : World} {g s n cap a b : Nat} {d : Array Int} (h : SwI w0 w g s n d) (ha : a < n) (hb : b < n) :
    Calls Try.prog 51 #[.slice (some ⟨g, 0, none⟩) n cap, .int .i64 a, .int .i64 b, .pointer (some ⟨s, 0, none⟩)] w fun e w' => ∃ x y : Nat, e = .returned (.tuple #[.int .i64 x, .int .i64 y]) ∧ ((x = a ∧ y = b) ∨ (x = b ∧ y = a)) ∧ SwI w0 w' g s n d := by
  obtain ⟨z, hz⟩ := h.sw
  have x0 := h.row.cell (show a < d.size by rw [h.size]; exact ha)
  have x1 := h.row.cell (show b < d.size by rw [h.size]; exact hb)
  have s0 : w.cell? ⟨s, 0, none⟩ = some (.int .i64 z) := cell_of_row _ _ 0 _ 3 (0, 0) hz
  have s1 := frozen_of_row w s 0 _ 3 hz
  have HI := Lib.hid h
  obtain ⟨p, hp⟩ : ∃ p, d[b]! = p := ⟨_, rfl⟩
  obtain ⟨q, hq⟩ : ∃ q, d[a]! = q := ⟨_, rfl⟩
  rw [hp] at x1
  rw [hq] at x0
  have HL := Lib.hid (fun W => less_any p q W)
  clear h hz hp hq
  cases hpq : ltInt p q with
  | false =>
    rw [hpq] at HL
    clear hpq
    go_enter Try.func51, Try.ntmps51
    go_wp2_with fail
    go_quiet ((go_at_call 40; exact Calls.quiet_of_same (HL.out _)))
    go_wp2_with fail
    go_ret2
    exact ⟨a, b, rfl, .inl ⟨rfl, rfl⟩, HI.out.drewN _⟩
  | true =>
    rw [hpq] at HL
    clear hpq
    go_enter Try.func51, Try.ntmps51
    go_wp2_with fail
    go_quiet ((go_at_call 40; exact Calls.quiet_of_same (HL.out _)))
    go_wp2_with fail
    go_ret2
    exact ⟨b, a, rfl, .inr ⟨rfl, rfl⟩, (HI.out.set _).drewN _⟩
set_option maxRecDepth 100000 in
set_option maxHeartbeats 4000000 in
theorem median_any {w0 w : World} {g s n cap a b c : Nat} {d : Array Int} (h : SwI w0 w g s n d) (ha : a < n) (hb : b < n) (hc : c < n) :
    Calls Try.prog 49 #[.slice (some ⟨g, 0, none⟩) n cap, .int .i64 a, .int .i64 b, .int .i64 c, .pointer (some ⟨s, 0, none⟩)] w fun e w' => ∃ x : Nat, e = .returned (.int .i64 x) ∧ (x = a ∨ x = b ∨ x = c) ∧ SwI w0 w' g s n d := by
  have H1 := Lib.hid (fun W (a b : Nat) (h : SwI w0 W g s n d) (ha : a < n) (hb : b < n) => order2_any (cap := cap) h ha hb)
  have C1 := Lib.hid (order2_any (cap := cap) h ha hb)
  clear h
  go_enter Try.func49, Try.ntmps49
  go_wp2_with fail
  refine C1.out.mono ?_
  rintro e w1 ⟨x1, y1, rfl, hxy1, hs1⟩
  have C2 := Lib.hid (H1.out w1 y1 c hs1 (by omega) hc)
  have X1 := Lib.hid hxy1
  clear hs1 C1 hxy1
  go_wp2_with fail
  refine C2.out.mono ?_
  rintro e w2 ⟨x2, y2, rfl, hxy2, hs2⟩
  have C3 := Lib.hid (H1.out w2 x1 x2 hs2 (by have := X1.out; omega) (by have := X1.out; omega))
  have X2 := Lib.hid hxy2
  clear hs2 C2 hxy2
  go_wp2_with fail
  refine C3.out.mono ?_
  rintro e w3 ⟨x3, y3, rfl, hxy3, hs3⟩
  have HS3 := Lib.hid hs3
  have X3 := Lib.hid hxy3
  clear hs3 C3 hxy3
  go_wp2_with fail
  go_ret
  exact ⟨y3, rfl, by have e1 := X1.out; have e2 := X2.out; have e3 := X3.out; omega, HS3.out⟩
set_option maxRecDepth 100000 in
set_option maxHeartbeats 4000000 in
theorem adjacent_any {w0 w : World} {g s n cap a : Nat} {d : Array Int} (h : SwI w0 w g s n d) (ha : 0 < a) (hb : a + 1 < n) (hn : n ≤ 1000000) :
    Calls Try.prog 48 #[.slice (some ⟨g, 0, none⟩) n cap, .int .i64 a, .pointer (some ⟨s, 0, none⟩)] w fun e w' => ∃ x : Nat, e = .returned (.int .i64 x) ∧ (a ≤ x + 1 ∧ x ≤ a + 1) ∧ SwI w0 w' g s n d := by
  obtain ⟨k, rfl⟩ : ∃ k, a = k + 1 := ⟨a - 1, by omega⟩
  have C1 := median_any (cap := cap) h (show k < n by omega) (show k + 1 < n by omega) (show k + 2 < n by omega)
  have e1 : ((k + 1 : Nat) : Int) = (k : Int) + 1 := rfl
  have e2 : ((k + 2 : Nat) : Int) = (k : Int) + 1 + 1 := by omega
  rw [e1, e2] at C1
  have HC := Lib.hid C1
  clear C1 h e1 e2
  go_enter Try.func48, Try.ntmps48
  go_wp2_with fail
  refine HC.out.mono ?_
  rintro e w1 ⟨x, rfl, hx, hs⟩
  have HX := Lib.hid hx
  have HS := Lib.hid hs
  clear hx hs
  go_wp2_with fail
  go_ret
  exact ⟨x, rfl, by have := HX.out; omega, HS.out⟩
end Go.Proofs.Ytedekcphgcmlnaa
