/- An argument that is a list of steps, opened. -/
import Derived.Test.YtdejdnkkbpmmlaaMOpenI
import Derived.Test.YtdejdnkkbpmmlaaMRefV
namespace Go.Proofs.Ytdejdnkkbpmmlaa
open Go.ChangeShapes Go.WideShapes Go.ChangeAt Go.RowKit Go.Deep

/-- a slice of sizes -/
structure SlZ (w : World) (A : Option Addr) (c : Nat) (zs : List Int) : Prop where
  rd : RdI w w.heap.size A zs
  le : zs.length ≤ c
  max : c ≤ 9223372036854775807
theorem SlZ.below {w w' : World} {A : Option Addr} {c : Nat} {zs : List Int} (h : SlZ w A c zs) (kk : Below w.heap.size w w') : SlZ w' A c zs := ⟨rdI_keep h.rd kk, h.le, h.max⟩
structure Step where
  kind : Nat
  at_ : Int
  n : Int
  x : Int
  size : Int
  A : Option Addr
  c : Nat
  zs : List Int
structure Step.Ok (s : Step) (W : World) : Prop where
  kind : s.kind ≤ 255
  a0 : -9223372036854775808 ≤ s.at_
  a1 : s.at_ ≤ 9223372036854775807
  n0 : -9223372036854775808 ≤ s.n
  n1 : s.n ≤ 9223372036854775807
  x0 : -9223372036854775808 ≤ s.x
  x1 : s.x ≤ 9223372036854775807
  sl : SlZ W s.A s.c s.zs
/-- a slice of steps that is read -/
def RdSt (W : World) (B : Nat) (A : Option Addr) (xs : List Step) : Prop :=
  ∀ k (h : k < xs.length), ∃ b o, A = some ⟨b, o, none⟩ ∧ b < B ∧ W.cell? ⟨b, o + k * 6, none⟩ = some (.int .u8 (xs[k].kind : Int)) ∧ W.cell? ⟨b, o + (k * 6 + 1), none⟩ = some (.int .i64 xs[k].at_) ∧
    W.cell? ⟨b, o + (k * 6 + 2), none⟩ = some (.int .i64 xs[k].n) ∧ W.cell? ⟨b, o + (k * 6 + 3), none⟩ = some (.int .i64 xs[k].x) ∧ W.cell? ⟨b, o + (k * 6 + 4), none⟩ = some (.int .i64 xs[k].size) ∧ W.cell? ⟨b, o + (k * 6 + 5), none⟩ = some (.slice xs[k].A xs[k].zs.length xs[k].c) ∧ xs[k].Ok W
theorem Try.cells55 : Try.prog.cellsOf 55 = 6 := by kernel_rfl
theorem Try.cells3 : Try.prog.cellsOf 3 = 1 := by kernel_rfl
theorem Try.cells53 : Try.prog.cellsOf 53 = 1 := by kernel_rfl
theorem add_add0 (a : Addr) (i j : Nat) : (a.add i).add j = a.add (i + j) := by
  unfold Addr.add
  by_cases hi : i = 0 <;> by_cases hj : j = 0 <;> simp [hi, hj] <;> omega
set_option maxRecDepth 100000 in
/-- a list of ints inside -/
theorem trod_places {H : Type} {enc : TypeId × Value → H} {W : World} {fuel : Nat} {v : Value} {x : DataW H × List MemPlace} (h : DataW.trod enc Try.prog W 0 (fun _ => true) true fuel 53 [v] = some x) :
    ∃ A c zs, v = .slice A (zs : List Int).length c ∧ SlZ W A c zs := by
  rcases open_ints Try.underlying53 Try.underlying2 Try.cells2 h with ⟨hv, _⟩ | ⟨a, len, cap, zs, hv, _, hl, hm, hz, _, hi, _⟩
  · obtain rfl : v = .slice none 0 0 := by simpa using hv
    exact ⟨none, 0, [], rfl, RdI.nil, Nat.le_refl _, by omega⟩
  · obtain rfl : v = .slice (some a) len cap := by simpa using hv
    have hzl : zs.length = cap := by rw [hz]; simp
    have hlen : (zs.take len).length = len := by rw [List.length_take]; omega
    refine ⟨some a, cap, zs.take len, by rw [hlen], fun k hk => ?_, by rw [hlen]; exact hl, by unfold maxLen at hm; omega⟩
    rw [hlen] at hk
    obtain ⟨b, o, sp⟩ := a
    have hsp : sp = none := by
      have := World.cell?_spot (hi 0 (by omega))
      simpa [Addr.add] using this
    subst hsp
    have g1 := hi k (by omega)
    rw [add_plain0] at g1
    refine ⟨b, o, rfl, World.block_lt_of_cell? W _ g1, ?_⟩
    rw [g1, List.getElem_take]
    have hkz : k < zs.length := by omega
    simp [List.getD, List.getElem?_eq_getElem hkz]
set_option maxRecDepth 100000 in
/-- an argument that is a list of steps -/
theorem open_steps {H : Type} {enc : TypeId × Value → H} {W : World} {v : Value} {d : DataW H} {ps : List MemPlace} (h : DataW.Trod enc Try.prog W 0 (fun _ => true) true 52 v d ps) (hval : Value.okWide Try.prog W .any 0 52 v) :
    ∃ A c xs, v = .slice A (xs : List Step).length c ∧ RdSt W W.heap.size A xs := by
  obtain ⟨a0, n0, c0, rfl⟩ := okWide_slice Try.underlying52 hval
  obtain ⟨fuel, hf⟩ := h
  have hcs : (Value.slice a0 n0 c0).cells.toList = [Value.slice a0 n0 c0] := rfl
  rw [hcs] at hf
  rcases open_slice Try.underlying52 hf with ⟨hv, _⟩ | ⟨a, len, cap, m, n, D, Pl, hv, _, hl, hm, hmm, _, hi⟩
  · have hv' : Value.slice a0 n0 c0 = .slice none 0 0 := by simpa using hv
    rw [hv']
    exact ⟨none, 0, [], rfl, fun k hk => absurd hk (by simp)⟩
  · have hv' : Value.slice a0 n0 c0 = .slice (some a) len cap := by simpa using hv
    rw [hv']
    have hml : m = cap := by rw [hmm]; simp
    have each : ∀ i, i < len → ∃ s : Step, W.cell? (a.add (i * 6)) = some (.int .u8 (s.kind : Int)) ∧ W.cell? (a.add (i * 6 + 1)) = some (.int .i64 s.at_) ∧ W.cell? (a.add (i * 6 + 2)) = some (.int .i64 s.n) ∧ W.cell? (a.add (i * 6 + 3)) = some (.int .i64 s.x) ∧ W.cell? (a.add (i * 6 + 4)) = some (.int .i64 s.size) ∧ W.cell? (a.add (i * 6 + 5)) = some (.slice s.A s.zs.length s.c) ∧ s.Ok W := by
      intro i hlt
      obtain ⟨cs', h1, h2⟩ := hi i (by omega)
      rw [Try.cells55] at h1
      obtain ⟨_, hlen, hcell⟩ := World.cells?_some h1
      obtain ⟨xs, k, _, _, _, hxl, hfl⟩ := DataW.trod_struct Try.underlying55 h2
      match xs, hxl, cs', hlen with
      | [y0, y1, y2, y3, y4, y5], _, [v0, v1, v2, v3, v4, v5], _ =>
        have g0 := hfl 0 _ rfl
        have g1 := hfl 1 _ rfl
        have g2 := hfl 2 _ rfl
        have g3 := hfl 3 _ rfl
        have g4 := hfl 4 _ rfl
        have g5 := hfl 5 _ rfl
        simp [Try.cells5, Try.cells3, Try.cells53, Try.cells2] at g0 g1 g2 g3 g4 g5
        have e0 := hcell 0 (by omega)
        have e1 := hcell 1 (by omega)
        have e2 := hcell 2 (by omega)
        have e3 := hcell 3 (by omega)
        have e4 := hcell 4 (by omega)
        have e5 := hcell 5 (by omega)
        rw [add_add0] at e0 e1 e2 e3 e4 e5
        obtain ⟨k0, hx0, _, hw0⟩ := DataW.trod_int Try.underlying5 g0
        obtain ⟨k1, hx1, _, hw1⟩ := DataW.trod_int Try.underlying3 g1
        obtain ⟨k2, hx2, _, hw2⟩ := DataW.trod_int Try.underlying3 g2
        obtain ⟨k3, hx3, _, hw3⟩ := DataW.trod_int Try.underlying3 g3
        obtain ⟨k4, hx4, _, _⟩ := DataW.trod_int Try.underlying2 g4
        obtain ⟨A4, c4, z4, rfl, hs4⟩ := trod_places g5
        obtain ⟨m0, rfl, hm0⟩ := wf_u8 hw0
        obtain ⟨w1, w2⟩ := wf_i64 hw1
        obtain ⟨w3, w4⟩ := wf_i64 hw2
        obtain ⟨w5, w6⟩ := wf_i64 hw3
        obtain rfl : v0 = _ := List.cons.inj hx0 |>.1
        obtain rfl : v1 = _ := List.cons.inj hx1 |>.1
        obtain rfl : v2 = _ := List.cons.inj hx2 |>.1
        obtain rfl : v3 = _ := List.cons.inj hx3 |>.1
        obtain rfl : v4 = _ := List.cons.inj hx4 |>.1
        exact ⟨⟨m0, k1, k2, k3, k4, A4, c4, z4⟩, e0, e1, e2, e3, e4, e5, ⟨hm0, w1, w2, w3, w4, w5, w6, hs4⟩⟩
    have hinh : Inhabited Step := ⟨⟨0, 0, 0, 0, 0, none, 0, []⟩⟩
    obtain ⟨f, hf2⟩ := choose_lt each
    refine ⟨some a, cap, (List.range len).map f, by simp, fun k hk => ?_⟩
    have hk' : k < len := by simpa using hk
    obtain ⟨b, o, sp⟩ := a
    have hsp : sp = none := by
      have := World.cell?_spot (hf2 0 (by omega)).1
      simpa [Addr.add] using this
    subst hsp
    obtain ⟨g1, g2, g3, g4, g5, g6, g7⟩ := hf2 k hk'
    rw [add_plain0] at g1 g2 g3 g4 g5 g6
    have e : ((List.range len).map f)[k] = f k := by simp
    rw [e]
    exact ⟨b, o, rfl, World.block_lt_of_cell? W _ g1, g1, g2, g3, g4, g5, g6, g7⟩
end Go.Proofs.Ytdejdnkkbpmmlaa
