/- An argument that is an S, opened. -/
import Derived.Test.YtbkfebnggomhdaaRow
import Derived.Test.YtbkfebnggomhdaaMarksW
namespace Go.Proofs.Ytbkfebnggomhdaa
open Go.ChangeShapes Go.WideShapes Go.ChangeAt Go.RowKit Go.Deep

theorem Try.cells41 : Try.prog.cellsOf 41 = 1 := by kernel_rfl
theorem Try.cells4 : Try.prog.cellsOf 4 = 1 := by kernel_rfl
theorem Try.cells39 : Try.prog.cellsOf 39 = 1 := by kernel_rfl
/-- an argument that is an S -/
theorem open_S {H : Type} {enc : TypeId × Value → H} {W : World} {v : Value} {d : DataW H} {ps : List MemPlace} (h : DataW.Trod enc Try.prog W 0 (fun _ => true) true 41 v d ps) (hval : Value.okWide Try.prog W .any 0 41 v) :
    ∃ A c ms, v = .agg #[.slice A (ms : List Bool).length c] ∧ ms.length ≤ c ∧ RdB W W.heap.size A ms := by
  obtain ⟨cs, rfl, hsz⟩ := okWide_struct Try.underlying41 hval
  rw [Try.cells41] at hsz
  obtain ⟨l⟩ := cs
  match l, hsz with
  | [x], _ =>
    obtain ⟨fuel, hf⟩ := h
    have hcs : (Value.agg #[x]).cells.toList = [x] := rfl
    rw [hcs] at hf
    obtain ⟨zs, n, _, _, _, hl, hg⟩ := DataW.trod_struct Try.underlying41 hf
    match zs, hl with
    | [z], _ =>
      have h0 : DataW.trod enc Try.prog W 0 (fun _ => true) true n 39 (([x].drop 0).take (Try.prog.cellsOf 39)) = some z := hg 0 _ rfl
      rw [Try.cells39] at h0
      have h0 : DataW.trod enc Try.prog W 0 (fun _ => true) true n 39 [x] = some z := h0
      rcases open_slice1 Try.underlying39 Try.cells4 h0 with ⟨hv, _⟩ | ⟨a, len, cap, m, k, V, Dd, Pl, hv, _, hlc, hm, hmm, _, hi⟩
      · have hv' : x = .slice none 0 0 := by simpa using hv
        subst hv'
        exact ⟨none, 0, [], rfl, Nat.le_refl _, fun k hk => absurd hk (by simp)⟩
      · have hv' : x = .slice (some a) len cap := by simpa using hv
        subst hv'
        have hml : m = cap := by rw [hmm]; simp
        have each : ∀ i, i < len → ∃ b : Bool, W.cell? (a.add i) = some (.bool b) := by
          intro i hlt
          obtain ⟨e1, e2⟩ := hi i (by omega)
          obtain ⟨b, hb, _⟩ := DataW.trod_bool Try.underlying4 e2
          have hb' : V i = .bool b := by simpa using hb
          exact ⟨b, by rw [e1, hb']⟩
        obtain ⟨f, hf2⟩ := choose_lt each
        refine ⟨some a, cap, (List.range len).map f, by simp, by simpa using hlc, fun k hk => ?_⟩
        have hk' : k < len := by simpa using hk
        obtain ⟨b, o, sp⟩ := a
        have hsp : sp = none := by
          have := World.cell?_spot (hf2 0 (by omega))
          simpa [Addr.add] using this
        subst hsp
        have g1 := hf2 k hk'
        rw [add_plain0] at g1
        exact ⟨b, o, rfl, World.block_lt_of_cell? W _ g1, by simpa using g1⟩

end Go.Proofs.Ytbkfebnggomhdaa
