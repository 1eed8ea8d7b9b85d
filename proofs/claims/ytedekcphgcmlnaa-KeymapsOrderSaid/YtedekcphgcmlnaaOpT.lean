/- An argument that is a list of steps, opened. -/
import Derived.Test.YtedekcphgcmlnaaRow
import Derived.Test.YtedekcphgcmlnaaBase
namespace Go.Proofs.Ytedekcphgcmlnaa
open Go.ChangeShapes Go.WideShapes Go.ChangeAt Go.RowKit Go.Deep

structure St where
  key : Int
  v : Int
  drop : Bool
/-- a slice of steps that is read -/
def RdT (W : World) (B : Nat) (A : Option Addr) (xs : List St) : Prop :=
  ∀ k (h : k < xs.length), ∃ b o, A = some ⟨b, o, none⟩ ∧ b < B ∧ W.cell? ⟨b, o + k * 3, none⟩ = some (.int .u64 xs[k].key) ∧ W.cell? ⟨b, o + k * 3 + 1, none⟩ = some (.int .i64 xs[k].v) ∧ W.cell? ⟨b, o + k * 3 + 2, none⟩ = some (.bool xs[k].drop)
theorem RdT.below {W W' : World} {B : Nat} {A : Option Addr} {xs : List St} (h : RdT W B A xs) (hb : Below B W W') : RdT W' B A xs := fun k hk => by
  obtain ⟨b, o, e, h0, h1, h2, h3⟩ := h k hk
  exact ⟨b, o, e, h0, (hb.cell (p := ⟨b, _, none⟩) h0).trans h1, (hb.cell (p := ⟨b, _, none⟩) h0).trans h2, (hb.cell (p := ⟨b, _, none⟩) h0).trans h3⟩
structure SlT (W : World) (A : Option Addr) (c : Nat) (xs : List St) : Prop where
  rd : RdT W W.heap.size A xs
  le : xs.length ≤ c
  max : c ≤ 9223372036854775807
theorem SlT.below {W W' : World} {A : Option Addr} {c : Nat} {xs : List St} (h : SlT W A c xs) (hb : Below W.heap.size W W') : SlT W' A c xs :=
  ⟨fun k hk => by
    obtain ⟨b, o, e, h0, h1⟩ := h.rd.below hb k hk
    exact ⟨b, o, e, Nat.lt_of_lt_of_le h0 hb.size, h1⟩, h.le, h.max⟩
theorem Try.cells29 : Try.prog.cellsOf 29 = 3 := by kernel_rfl
theorem Try.cells27 : Try.prog.cellsOf 27 = 1 := by kernel_rfl
theorem Try.cells3 : Try.prog.cellsOf 3 = 1 := by kernel_rfl
theorem Try.cells4 : Try.prog.cellsOf 4 = 1 := by kernel_rfl
theorem Try.cells45 : Try.prog.cellsOf 45 = 1 := by kernel_rfl
theorem Try.cells22 : Try.prog.cellsOf 22 = 1 := by kernel_rfl
theorem add_add0 (a : Addr) (i j : Nat) : (a.add i).add j = a.add (i + j) := by
  unfold Addr.add
  by_cases hi : i = 0 <;> by_cases hj : j = 0 <;> simp [hi, hj] <;> omega
set_option maxRecDepth 100000 in
/-- a list of steps inside -/
theorem trod_steps {H : Type} {enc : TypeId × Value → H} {W : World} {fuel : Nat} {v : Value} {x : DataW H × List MemPlace} (h : DataW.trod enc Try.prog W 0 (fun _ => true) true fuel 22 [v] = some x) :
    ∃ A c xs, v = .slice A (xs : List St).length c ∧ SlT W A c xs := by
  rcases open_slice Try.underlying22 h with ⟨hv, _⟩ | ⟨a, len, cap, m, n, D, Pl, hv, _, hl, hm, hmm, _, hi⟩
  · obtain rfl : v = .slice none 0 0 := by simpa using hv
    exact ⟨none, 0, [], rfl, fun k hk => absurd hk (by simp), Nat.le_refl _, by omega⟩
  · obtain rfl : v = .slice (some a) len cap := by simpa using hv
    have hml : m = cap := by rw [hmm]; simp
    have each : ∀ i, i < len → ∃ s : St, W.cell? (a.add (i * 3)) = some (.int .u64 s.key) ∧ W.cell? (a.add (i * 3 + 1)) = some (.int .i64 s.v) ∧ W.cell? (a.add (i * 3 + 2)) = some (.bool s.drop) := by
      intro i hlt
      obtain ⟨cs', h1, h2⟩ := hi i (by omega)
      rw [Try.cells29] at h1
      obtain ⟨_, hlen, hcell⟩ := World.cells?_some h1
      obtain ⟨xs, k, _, _, _, hxl, hfl⟩ := DataW.trod_struct Try.underlying29 h2
      match xs, hxl, cs', hlen with
      | [y0, y1, y2], _, [v0, v1, v2], _ =>
        have g0 := hfl 0 _ rfl
        have g1 := hfl 1 _ rfl
        have g2 := hfl 2 _ rfl
        simp [Try.cells27, Try.cells3, Try.cells4] at g0 g1 g2
        have e0 := hcell 0 (by omega)
        have e1 := hcell 1 (by omega)
        have e2 := hcell 2 (by omega)
        rw [add_add0] at e0 e1 e2
        obtain ⟨k0, hx0, _, _⟩ := DataW.trod_int Try.underlying27 g0
        obtain ⟨k1, hx1, _, _⟩ := DataW.trod_int Try.underlying3 g1
        obtain ⟨k2, hx2, _⟩ := DataW.trod_bool Try.underlying4 g2
        obtain rfl : v0 = _ := List.cons.inj hx0 |>.1
        obtain rfl : v1 = _ := List.cons.inj hx1 |>.1
        obtain rfl : v2 = _ := List.cons.inj hx2 |>.1
        exact ⟨⟨k0, k1, k2⟩, e0, e1, e2⟩
    have hinh : Inhabited St := ⟨⟨0, 0, false⟩⟩
    obtain ⟨f, hf2⟩ := choose_lt each
    refine ⟨some a, cap, (List.range len).map f, by simp, fun k hk => ?_, by simpa using hl, by unfold maxLen at hm; omega⟩
    have hk' : k < len := by simpa using hk
    obtain ⟨b, o, sp⟩ := a
    have hsp : sp = none := by
      have := World.cell?_spot (hf2 0 (by omega)).1
      simpa [Addr.add] using this
    subst hsp
    obtain ⟨g1, g2, g3⟩ := hf2 k hk'
    rw [add_plain] at g1 g2 g3
    have e : ((List.range len).map f)[k] = f k := by simp
    rw [e]
    exact ⟨b, o, rfl, World.block_lt_of_cell? W _ g1, g1, g2, g3⟩
/-- an argument that is a list of steps -/
theorem open_steps {H : Type} {enc : TypeId × Value → H} {W : World} {v : Value} {d : DataW H} {ps : List MemPlace} (h : DataW.Trod enc Try.prog W 0 (fun _ => true) true 22 v d ps) (hval : Value.okWide Try.prog W .any 0 22 v) :
    ∃ A c xs, v = .slice A (xs : List St).length c ∧ SlT W A c xs := by
  obtain ⟨a0, n0, c0, rfl⟩ := okWide_slice Try.underlying22 hval
  obtain ⟨fuel, hf⟩ := h
  have hcs : (Value.slice a0 n0 c0).cells.toList = [Value.slice a0 n0 c0] := rfl
  rw [hcs] at hf
  exact trod_steps hf
set_option maxRecDepth 100000 in
/-- an argument that is an O -/
theorem open_O {H : Type} {enc : TypeId × Value → H} {W : World} {v : Value} {d : DataW H} {ps : List MemPlace} (h : DataW.Trod enc Try.prog W 0 (fun _ => true) true 45 v d ps) (hval : Value.okWide Try.prog W .any 0 45 v) :
    ∃ A c xs, v = .agg #[.slice A (xs : List St).length c] ∧ SlT W A c xs := by
  obtain ⟨cs, rfl, hsz⟩ := okWide_struct Try.underlying45 hval
  rw [Try.cells45] at hsz
  obtain ⟨l⟩ := cs
  match l, hsz with
  | [x], _ =>
    obtain ⟨fuel, hf⟩ := h
    have hcs : (Value.agg #[x]).cells.toList = [x] := rfl
    rw [hcs] at hf
    obtain ⟨zs, n, _, _, _, hl, hg⟩ := DataW.trod_struct Try.underlying45 hf
    match zs, hl with
    | [z0], _ =>
      have h0 := hg 0 _ rfl
      simp [Try.cells22] at h0
      obtain ⟨A, c, xs, rfl, hs⟩ := trod_steps h0
      exact ⟨A, c, xs, rfl, hs⟩
end Go.Proofs.Ytedekcphgcmlnaa
