/- An argument that is an R, opened. -/
import Derived.Test.YtfkjnepafgehiaaRow
import Derived.Test.YtfkjnepafgehiaaROf
namespace Go.Proofs.Ytfkjnepafgehiaa
open Go.ChangeShapes Go.WideShapes Go.ChangeAt Go.RowKit Go.Deep

theorem wf_i64 {i : Int} (h : (Lit.int .i64 i).wf = true) : -9223372036854775808 ≤ i ∧ i ≤ 9223372036854775807 := by
  simp [Lit.wf, IntKind.min, IntKind.max, IntKind.signed, IntKind.bits] at h
  omega
theorem wf_u8 {i : Int} (h : (Lit.int .u8 i).wf = true) : ∃ n : Nat, i = (n : Int) ∧ n ≤ 255 := by
  have h2 : 0 ≤ i ∧ i ≤ 255 := by
    simp [Lit.wf, IntKind.min, IntKind.max, IntKind.signed, IntKind.bits] at h
    omega
  exact ⟨i.toNat, by omega, by omega⟩
theorem Try.cells35 : Try.prog.cellsOf 35 = 2 := by kernel_rfl
theorem Try.cells33 : Try.prog.cellsOf 33 = 1 := by kernel_rfl
theorem Try.cells4 : Try.prog.cellsOf 4 = 1 := by kernel_rfl
theorem Try.cells5 : Try.prog.cellsOf 5 = 1 := by kernel_rfl
/-- an argument that is an R -/
theorem open_R {H : Type} {enc : TypeId × Value → H} {W : World} {v : Value} {d : DataW H} {ps : List MemPlace} (h : DataW.Trod enc Try.prog W 0 (fun _ => true) true 35 v d ps) (hval : Value.okWide Try.prog W .any 0 35 v) :
    ∃ A c us g, v = .agg #[.slice A (us : List Nat).length c, .bool g] ∧ us.length ≤ c ∧ c ≤ maxLen ∧ RdU W W.heap.size A us := by
  obtain ⟨cs, rfl, hsz⟩ := okWide_struct Try.underlying35 hval
  rw [Try.cells35] at hsz
  obtain ⟨l⟩ := cs
  match l, hsz with
  | [x, y], _ =>
    obtain ⟨fuel, hf⟩ := h
    have hcs : (Value.agg #[x, y]).cells.toList = [x, y] := rfl
    rw [hcs] at hf
    obtain ⟨zs, n, _, _, _, hl, hg⟩ := DataW.trod_struct Try.underlying35 hf
    match zs, hl with
    | [z0, z1], _ =>
      have h0 := hg 0 _ rfl
      have h1 := hg 1 _ rfl
      simp [Try.cells33, Try.cells4] at h0 h1
      obtain ⟨g, hy, _⟩ := DataW.trod_bool Try.underlying4 h1
      obtain rfl : y = .bool g := by simpa using hy
      rcases open_ints Try.underlying33 Try.underlying5 Try.cells5 h0 with ⟨hv, _⟩ | ⟨a, len, cap, zs, hv, _, hl, hm, hz, _, hi, hw⟩
      · obtain rfl : x = .slice none 0 0 := by simpa using hv
        exact ⟨none, 0, [], g, rfl, Nat.le_refl _, by unfold maxLen; omega, fun k hk => absurd hk (by simp)⟩
      · obtain rfl : x = .slice (some a) len cap := by simpa using hv
        have hzl : zs.length = cap := by rw [hz]; simp
        have hn : ∀ k (h : k < zs.length), zs[k] = ((zs[k].toNat : Nat) : Int) ∧ zs[k].toNat ≤ 255 := fun k h => by
          obtain ⟨m, hm, hm2⟩ := wf_u8 (hw _ (List.getElem_mem h))
          rw [hm]
          exact ⟨by simp, by simpa using hm2⟩
        have hlen : ((zs.take len).map Int.toNat).length = len := by rw [List.length_map, List.length_take]; omega
        refine ⟨some a, cap, (zs.take len).map Int.toNat, g, by rw [hlen], by rw [hlen]; exact hl, hm, fun k hk => ?_⟩
        rw [hlen] at hk
        obtain ⟨b, o, sp⟩ := a
        have hsp : sp = none := by
          have := World.cell?_spot (hi 0 (by omega))
          simpa [Addr.add] using this
        subst hsp
        have g1 := hi k (by omega)
        rw [add_plain0] at g1
        have hkz : k < zs.length := by omega
        have e : ((zs.take len).map Int.toNat)[k]'(by rw [hlen]; exact hk) = zs[k].toNat := by simp
        rw [e]
        refine ⟨b, o, rfl, World.block_lt_of_cell? W _ g1, ?_, (hn k hkz).2⟩
        rw [g1, ← (hn k hkz).1]
        simp [List.getD, List.getElem?_eq_getElem hkz]

end Go.Proofs.Ytfkjnepafgehiaa
