/- The ring: newRing, join, move. -/
import Derived.Test.YtejgcpohdbiaoaaBase
import Derived.Deep.Cut
namespace Go.Proofs.Ytejgcpohdbiaoaa
open Go.RowKit

def lk (ls nx : Nat → Nat) : Nat → Value := fun j => if j % 2 = 0 then .int .i64 (ls (j / 2) : Nat) else .int .i64 (nx (j / 2) : Nat)
/-- the links of n + 1 places lie in block b -/
def Rg (w : World) (b n : Nat) (ls nx : Nat → Nat) : Prop := w.rowIs b 70 ((n + 1) * 2) (lk ls nx)
theorem Rg.last {w : World} {b n : Nat} {ls nx : Nat → Nat} (h : Rg w b n ls nx) {i : Nat} (hi : i ≤ n) : w.cell? ⟨b, i * 2, none⟩ = some (.int .i64 (ls i : Nat)) := by
  have h1 := World.rowIs.cell h (i := i * 2) (by omega)
  rw [h1]
  unfold lk
  rw [if_pos (by omega), show i * 2 / 2 = i by omega]
theorem Rg.next {w : World} {b n : Nat} {ls nx : Nat → Nat} (h : Rg w b n ls nx) {i : Nat} (hi : i ≤ n) : w.cell? ⟨b, i * 2 + 1, none⟩ = some (.int .i64 (nx i : Nat)) := by
  have h1 := World.rowIs.cell h (i := i * 2 + 1) (by omega)
  rw [h1]
  unfold lk
  rw [if_neg (by omega), show (i * 2 + 1) / 2 = i by omega]
theorem Rg.frozen {w : World} {b n : Nat} {ls nx : Nat → Nat} (h : Rg w b n ls nx) (i : Nat) : w.frozen? ⟨b, i, none⟩ = false := World.rowIs.frozen h i
theorem Rg.lt {w : World} {b n : Nat} {ls nx : Nat → Nat} (h : Rg w b n ls nx) : b < w.heap.size := World.rowIs.lt h
theorem Rg.keep {w w' : World} {b n : Nat} {ls nx : Nat → Nat} (h : Rg w b n ls nx) (e : w'.heap[b]? = w.heap[b]?) : Rg w' b n ls nx := World.rowIs.of_block h e
theorem Rg.congr {w : World} {b n : Nat} {ls nx ls' nx' : Nat → Nat} (h : Rg w b n ls nx) (e1 : ∀ i, i ≤ n → ls i = ls' i) (e2 : ∀ i, i ≤ n → nx i = nx' i) : Rg w b n ls' nx' :=
  World.rowIs.congr h fun j hj => by
    unfold lk
    split
    · rw [e1 _ (by omega)]
    · rw [e2 _ (by omega)]
theorem Rg.setLast {w : World} {b n : Nat} {ls nx : Nat → Nat} (h : Rg w b n ls nx) (i x : Nat) : Rg (w.setCell ⟨b, i * 2, none⟩ (.int .i64 (x : Nat))) b n (upd ls i x) nx := by
  refine World.rowIs.congr (World.rowIs.set h (i * 2) _) fun j _ => ?_
  by_cases e : j = i * 2
  · subst e
    rw [if_pos rfl]
    unfold lk
    rw [if_pos (by omega), show i * 2 / 2 = i by omega, upd_same]
  · rw [if_neg e]
    unfold lk
    split
    · rw [upd_other _ _ (by omega)]
    · rfl
theorem Rg.setNext {w : World} {b n : Nat} {ls nx : Nat → Nat} (h : Rg w b n ls nx) (i x : Nat) : Rg (w.setCell ⟨b, i * 2 + 1, none⟩ (.int .i64 (x : Nat))) b n ls (upd nx i x) := by
  refine World.rowIs.congr (World.rowIs.set h (i * 2 + 1) _) fun j _ => ?_
  by_cases e : j = i * 2 + 1
  · subst e
    rw [if_pos rfl]
    unfold lk
    rw [if_neg (by omega), show (i * 2 + 1) / 2 = i by omega, upd_same]
  · rw [if_neg e]
    unfold lk
    split
    · rfl
    · rw [upd_other _ _ (by omega)]
theorem grown_drewN {a w : World} {row : Option Nat} (h : a.grownBy w row) (n : Nat) : a.grownBy (w.drewN n) row := ⟨h.os, h.tape, h.output, h.size, h.block⟩
theorem grown_set {a w : World} {g : Nat} (h : a.grownBy w (some g)) (i : Nat) (u : Value) : a.grownBy (w.setCell ⟨g, i, none⟩ u) (some g) :=
  ⟨h.os, h.tape, h.output, by simpa [World.setCell] using h.size, fun k hk hne => (Below.heap_setCell w _ u k (by rintro rfl; exact hne rfl)).trans (h.block k hk hne)⟩
/-- what a change of the ring does -/
def RgC (b n : Nat) (ls nx : Nat → Nat) (w : World) (e : Ending) (w' : World) : Prop := e = .returned (.tuple #[]) ∧ Rg w' b n ls nx ∧ w.grownBy w' (some b)
set_option maxHeartbeats 2000000 in
theorem join_any {w : World} {b n : Nat} {ls nx : Nat → Nat} (h : Rg w b n ls nx) {x y : Nat} (hx : x ≤ n) (hy : y ≤ n) (_hn : n ≤ 4096) :
    Calls Try.prog 33 #[.slice (some ⟨b, 0, none⟩) (n + 1) (n + 1), .int .i64 (x : Nat), .int .i64 (y : Nat)] w (RgC b n (upd ls y x) (upd nx x y) w) := by
  have c0 := h.next hx
  have f0 := h.frozen (x * 2 + 1)
  have h1 := h.setNext x y
  have H2 := Lib.hid (h1.setLast y x)
  have HG := Lib.hid (grown_set (grown_set (World.grownBy.refl w (some b)) (x * 2 + 1) (.int .i64 (y : Nat))) (y * 2) (.int .i64 (x : Nat)))
  obtain ⟨W, hW⟩ : ∃ W : World, w.setCell ⟨b, x * 2 + 1, none⟩ (.int .i64 (y : Nat)) = W := ⟨_, rfl⟩
  rw [hW] at h1 H2 HG
  have c1 := h1.last hy
  have f1 := h1.frozen (y * 2)
  clear h h1
  go_enter Try.func33, Try.ntmps33
  go_wp2_with fail
  refine bodyPost_ret (results_none rfl _ _ _) rfl ?_
  exact ⟨rfl, H2.out, HG.out⟩
theorem Rg.drewN {w : World} {b n : Nat} {ls nx : Nat → Nat} (h : Rg w b n ls nx) (k : Nat) : Rg (w.drewN k) b n ls nx := h
set_option maxHeartbeats 2000000 in
theorem move_any {w : World} {b n : Nat} {ls nx : Nat → Nat} (h : Rg w b n ls nx) {x y : Nat} (hx : x ≤ n) (hy : y ≤ n) (hn : n ≤ 4096) (h1 : ls x ≤ n) (h2 : nx x ≤ n) (h3 : upd ls (nx x) (ls x) y ≤ n) :
    Calls Try.prog 30 #[.slice (some ⟨b, 0, none⟩) (n + 1) (n + 1), .int .i64 (x : Nat), .int .i64 (y : Nat)] w (RgC b n (upd (upd (upd ls (nx x) (ls x)) x (upd ls (nx x) (ls x) y)) y x) (upd (upd (upd nx (ls x) (nx x)) (upd ls (nx x) (ls x) y) x) x y) w) := by
  have c0 := h.last hx
  have c1 := h.next hx
  have HJ1 := Lib.hid (join_any (h.drewN 1) h1 h2 hn)
  have HJ2 := Lib.hid (fun (W : World) (ls' nx' : Nat → Nat) (hW : Rg W b n ls' nx') (hp : ls' y ≤ n) => join_any hW hp hx hn)
  have HJ3 := Lib.hid (fun (W : World) (ls' nx' : Nat → Nat) (hW : Rg W b n ls' nx') => join_any hW hx hy hn)
  generalize hp : ls x = p at *
  generalize hq : nx x = q at *
  have hxi : (x : Int) < (n : Int) + 1 := by omega
  have hyi : (y : Int) < (n : Int) + 1 := by omega
  clear h hp hq
  go_enter Try.func30, Try.ntmps30
  go_wp2_with fail
  go_still_tail 11, (by kernel_rfl)
  change wpList _ _ _ _ _ w.drew
  go_wp2_with fail
  refine HJ1.out.mono ?_
  rintro e w1 ⟨rfl, hr, hg⟩
  have c2 := hr.last hy
  have HR := Lib.hid hr
  have HG := Lib.hid hg
  have HJ := Lib.hid (HJ2.out w1 _ _ hr h3)
  generalize hls : upd ls q p = ls1 at *
  generalize hnx : upd nx p q = nx1 at *
  generalize hp2 : ls1 y = p2 at *
  clear hr hg HJ1 HJ2 hls hnx hp2
  go_wp2_with fail
  refine HJ.out.mono ?_
  rintro e w2 ⟨rfl, hr, hg⟩
  have HR2 := Lib.hid hr
  have HG2 := Lib.hid hg
  have HJ4 := Lib.hid (HJ3.out w2 _ _ hr)
  clear hr hg HJ HJ3 c2
  go_wp2_with fail
  refine HJ4.out.mono ?_
  rintro e w3 ⟨rfl, hr, hg⟩
  have HR3 := Lib.hid hr
  have HG3 := Lib.hid hg
  clear hr hg HJ4
  go_wp2_with fail
  refine bodyPost_ret (results_none rfl _ _ _) rfl ?_
  exact ⟨rfl, HR3.out, (World.grownBy.trans (World.grownBy.trans (World.grownBy.trans (grown_drewN (World.grownBy.refl w (some b)) 1) HG.out) HG2.out) HG3.out)⟩
/-- the first i places of a new ring -/
structure NrI (w wr : World) (g n i : Nat) : Prop where
  row : wr.rowIs g 70 ((n + 1) * 2) fun j => if j < i * 2 then lk (fun i => (i + n) % (n + 1)) (fun i => (i + 1) % (n + 1)) j else .int .i64 0
  u : Below w.heap.size w wr
  new : w.heap.size ≤ g
theorem info70 : (Try.prog.info? 70).map (fun i => (i.zero, i.size, i.bytes)) = some (some (.agg #[.int .i64 0, .int .i64 0]), 2, 16) := by kernel_rfl
theorem Try.underlying65' : Try.prog.underlying 65 = some (.slice 70) := by kernel_rfl
theorem make_links (x : Int) (n : Nat) (ex : x = n) (h : n ≤ 100000) (w : World) :
    (Instr.makeSlice 65 (.int .i64 x) (.int .i64 x)).run Try.prog w = .ok (.slice (some ⟨w.heap.size, 0, none⟩) n n) (w.alloc (.cells (madeCells #[.int .i64 0, .int .i64 0] (n * 2)) 70)) := by
  subst ex
  obtain ⟨i, hi, h1⟩ := Option.map_eq_some_iff.1 info70
  simp only [Prod.mk.injEq] at h1
  obtain ⟨hz, hs, hb⟩ := h1
  have := run_make (P := Try.prog) w 65 70 i _ Try.underlying65' hi hz .i64 .i64 n n (by omega) (by omega) (by rw [hb]; omega) (by omega)
  rw [hs] at this
  simp only [Int.toNat_natCast] at this
  exact this
/-- what newRing hands back -/
def NewR (n : Nat) (w : World) (e : Ending) (w' : World) : Prop := ∃ g, e = .returned (.slice (some ⟨g, 0, none⟩) (n + 1) (n + 1)) ∧ Rg w' g n (fun i => (i + n) % (n + 1)) (fun i => (i + 1) % (n + 1)) ∧ Below w.heap.size w w' ∧ w.heap.size ≤ g
theorem two_zero (m j : Nat) (h : j < m) : (madeCells #[Value.int .i64 0, Value.int .i64 0] m)[j]? = some (.int .i64 0) := by
  have h2 : j % 2 = 0 ∨ j % 2 = 1 := by omega
  rcases h2 with h2 | h2 <;> simp [madeCells, h, h2]
theorem nr_start (w : World) (n : Nat) : NrI w (w.alloc (.cells (madeCells #[.int .i64 0, .int .i64 0] ((n + 1) * 2)) 70)) w.heap.size n 0 :=
  ⟨⟨_, heap_alloc_new w _, size_madeCells _ _, fun j hj => by show _ = some (if j < 0 * 2 then _ else _); rw [two_zero _ _ hj, if_neg (by omega)]⟩, below_new w _, Nat.le_refl _⟩
theorem NrI.step {w wr : World} {g n i : Nat} (h : NrI w wr g n i) (_hi : i ≤ n) : NrI w ((wr.setCell ⟨g, i * 2, none⟩ (.int .i64 (((i + n) % (n + 1) : Nat) : Int))).setCell ⟨g, i * 2 + 1, none⟩ (.int .i64 (((i + 1) % (n + 1) : Nat) : Int))) g n (i + 1) := by
  refine ⟨World.rowIs.congr (World.rowIs.set (World.rowIs.set h.row (i * 2) _) (i * 2 + 1) _) fun j hj => ?_, (h.u.setCell (by exact h.new) _).setCell (by exact h.new) _, h.new⟩
  by_cases e1 : j = i * 2 + 1
  · subst e1
    rw [if_pos rfl, if_pos (by omega)]
    unfold lk
    rw [if_neg (by omega), show (i * 2 + 1) / 2 = i by omega]
  · rw [if_neg e1]
    by_cases e2 : j = i * 2
    · subst e2
      rw [if_pos rfl, if_pos (by omega)]
      unfold lk
      rw [if_pos (by omega), show i * 2 / 2 = i by omega]
    · rw [if_neg e2]
      by_cases e3 : j < i * 2
      · rw [if_pos e3, if_pos (by omega)]
      · rw [if_neg e3, if_neg (by omega)]
theorem NrI.cells {w wr : World} {g n i : Nat} (h : NrI w wr g n i) (hi : i ≤ n) : (∃ z, wr.cell? ⟨g, i * 2, none⟩ = some z) ∧ (∃ z, wr.cell? ⟨g, i * 2 + 1, none⟩ = some z) :=
  ⟨⟨_, World.rowIs.cell h.row (i := i * 2) (by omega)⟩, ⟨_, World.rowIs.cell h.row (i := i * 2 + 1) (by omega)⟩⟩
set_option maxRecDepth 100000 in
set_option maxHeartbeats 4000000 in
theorem newRing_any (n : Nat) (hn : n ≤ 4096) (w : World) : Calls Try.prog 29 #[.int .i64 (n : Nat)] w (NewR n w) := by
  have hmk := make_links ((n : Int) + 1) (n + 1) (by omega) (by omega)
  have H0 := Lib.hid (nr_start w n)
  go_enter Try.func29, Try.ntmps29
  go_upto_region 2 with fail
  obtain ⟨g, hg⟩ : ∃ g : Nat, w.heap.size = g := ⟨_, rfl⟩
  obtain ⟨V, hV⟩ : ∃ V : World, w.alloc (.cells (madeCells #[.int .i64 0, .int .i64 0] ((n + 1) * 2)) 70) = V := ⟨_, rfl⟩
  rw [hV, hg] at H0 ⊢
  clear hV hmk hg
  go_wp2_with fail
  go_loopw [10] (fun v wr => ∃ (i : Nat), v = .int .i64 i ∧ i ≤ n + 1 ∧ Hid (NrI w wr g n i)) (fun v _ => n + 1 - (intOf v).toNat)
  case atStart => exact ⟨0, rfl, Nat.zero_le _, H0⟩
  case round =>
    clear H0
    obtain ⟨i, rfl, hi, HI⟩ := hrel
    by_cases hlt : i ≤ n
    · have h1 : (i : Int) < (n : Int) + 1 := by omega
      obtain ⟨⟨z0, c0⟩, ⟨z1, c1⟩⟩ := HI.out.cells hlt
      have f0 := World.rowIs.frozen HI.out.row (i * 2)
      have f1 := World.rowIs.frozen HI.out.row (i * 2 + 1)
      have HN := Lib.hid ((show NrI w wr.drew g n i from ⟨HI.out.row, HI.out.u.drew, HI.out.new⟩).step hlt)
      obtain ⟨m1, hm1⟩ : ∃ m : Nat, n + 1 = m := ⟨_, rfl⟩
      obtain ⟨s1, hs1⟩ : ∃ m : Nat, i + n = m := ⟨_, rfl⟩
      obtain ⟨s2, hs2⟩ : ∃ m : Nat, i + 1 = m := ⟨_, rfl⟩
      rw [hs1, hs2, hm1] at HN
      have q1 : IntKind.i64.wrap ((i : Int) + (n : Int)) = (s1 : Int) := by rw [IntWalk.i64_in _ (by omega)]; omega
      have q2 : IntKind.i64.wrap ((n : Int) + 1) = (m1 : Int) := by rw [IntWalk.i64_in _ (by omega)]; omega
      have q3 : IntKind.i64.wrap ((i : Int) + 1) = (s2 : Int) := by rw [IntWalk.i64_in _ (by omega)]; omega
      have q4 : ((m1 : Int) == 0) = false := by simp; omega
      have q5 : ¬ (m1 = 0) := by omega
      have r1 : ((s1 : Int)).tmod (m1 : Int) = ((s1 % m1 : Nat) : Int) := by
        rw [Int.tmod_eq_emod_of_nonneg (by omega)]; simp
      have r2 : ((s2 : Int)).tmod (m1 : Int) = ((s2 % m1 : Nat) : Int) := by
        rw [Int.tmod_eq_emod_of_nonneg (by omega)]; simp
      have b1 : s1 % m1 ≤ 4096 := by have := Nat.mod_lt s1 (show 0 < m1 by omega); omega
      have b2 : s2 % m1 ≤ 4096 := by have := Nat.mod_lt s2 (show 0 < m1 by omega); omega
      generalize s1 % m1 = p at *
      generalize s2 % m1 = q at *
      have HS2 := Lib.hid hs2
      clear hm1 hs1 hs2
      go_upto_region 5 with fail
      go_still_tail 15, (by kernel_rfl)
      change wpList _ _ _ _ _ wr.drew
      go_wp2_with fail
      go_roundw
      case rel => exact ⟨s2, by have := HS2.out; exact congrArg (Value.int .i64) (by omega), by have := HS2.out; omega, HN⟩
      case measure => have := HS2.out; simp [intOf]; omega
    · obtain rfl : i = n + 1 := by omega
      go_wp2_with fail
      go_ret
      refine ⟨g, rfl, ?_, HI.out.u, HI.out.new⟩
      exact World.rowIs.congr HI.out.row fun j hj => by rw [if_pos hj]
end Go.Proofs.Ytejgcpohdbiaoaa
