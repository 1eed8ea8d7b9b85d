/-
  For every list of sizes and every list of changes, FenwicksSet returns true, and its arguments read as they did: sizes that are changed are those of the list; with an error nothing changes; the examples hold.
  Conditions: none beside the row's own.
-/
import Derived.Test.YthdohijhioocgaaRow
import Derived.Test.YthdohijhioocgaaLaw4W
namespace Go.Proofs.Ythdohijhioocgaa
open Go.ChangeShapes Go.WideShapes Go.ChangeAt Go.RowKit Go.Deep

theorem Try.cells3 : Try.prog.cellsOf 3 = 1 := by kernel_rfl
section
variable {H : Type} {enc : TypeId × Value → H} {W : World}
/-- an argument that is a list of changes -/
theorem open_steps {v : Value} {d : DataW H} {ps : List MemPlace} (h : DataW.Trod enc Try.prog W 0 (fun _ => true) true 44 v d ps) (hval : Value.okWide Try.prog W .any 0 44 v) :
    ∃ A c xs, v = .slice A (xs : List (Int × Int)).length c ∧ xs.length ≤ c ∧ c ≤ maxLen ∧ RdS W W.heap.size A xs := by
  obtain ⟨a0, n0, c0, rfl⟩ := okWide_slice Try.underlying44 hval
  obtain ⟨fuel, hf⟩ := h
  have hcs : (Value.slice a0 n0 c0).cells.toList = [Value.slice a0 n0 c0] := rfl
  rw [hcs] at hf
  rcases open_slice_pairs Try.underlying44 Try.underlying48 Try.cells48 rfl rfl Try.cells3 Try.cells2 hf with ⟨hv, _⟩ | ⟨a, len, cap, m, n, V0, V1, D0, D1, P0, P1, hv, _, hl, hm, hmm, _, hi⟩
  · have hv' : Value.slice a0 n0 c0 = .slice none 0 0 := by simpa using hv
    rw [hv']
    exact ⟨none, 0, [], rfl, Nat.le_refl _, by unfold maxLen; omega, (fun k h => absurd h (by simp))⟩
  · have hv' : Value.slice a0 n0 c0 = .slice (some a) len cap := by simpa using hv
    rw [hv']
    have hml : m = cap := by rw [hmm]; simp
    have each : ∀ i, i < len → ∃ s : Int × Int, W.cell? (a.add (i * 2)) = some (.int .i64 s.1) ∧ W.cell? (a.add (i * 2 + 1)) = some (.int .i64 s.2) := by
      intro i hlt
      obtain ⟨c1, c2, t1, t2⟩ := hi i (by omega)
      obtain ⟨x, hx, _, _⟩ := DataW.trod_int Try.underlying3 t1
      obtain ⟨y, hy, _, _⟩ := DataW.trod_int Try.underlying2 t2
      have hx' : V0 i = .int .i64 x := by simpa using hx
      have hy' : V1 i = .int .i64 y := by simpa using hy
      rw [hx'] at c1
      rw [hy'] at c2
      exact ⟨(x, y), c1, c2⟩
    obtain ⟨f, hf2⟩ := choose_lt each
    refine ⟨some a, cap, (List.range len).map f, by simp, by simpa using hl, hm, fun k hk => ?_⟩
    have hk' : k < len := by simpa using hk
    obtain ⟨b, o, sp⟩ := a
    have hsp : sp = none := by
      have := World.cell?_spot (hf2 0 (by omega)).1
      simpa [Addr.add] using this
    subst hsp
    obtain ⟨g1, g2⟩ := hf2 k hk'
    rw [add_plain0] at g1 g2
    refine ⟨b, o, rfl, World.block_lt_of_cell? W _ g1, ?_, ?_⟩
    · simpa using g1
    · simpa [Nat.add_assoc] using g2
/-- an argument that is a list of ints -/
theorem open_places0 {H : Type} {enc : TypeId × Value → H} {W : World} {v : Value} {d : DataW H} {ps : List MemPlace} (h : DataW.Trod enc Try.prog W 0 (fun _ => true) true 22 v d ps) (hval : Value.okWide Try.prog W .any 0 22 v) :
    ∃ A c zs, v = .slice A (zs : List Int).length c ∧ zs.length ≤ c ∧ c ≤ maxLen ∧ RdI W W.heap.size A zs ∧ (A = none → c = 0) := by
  obtain ⟨a0, n0, c0, rfl⟩ := okWide_slice Try.underlying22 hval
  obtain ⟨fuel, hf⟩ := h
  have hcs : (Value.slice a0 n0 c0).cells.toList = [Value.slice a0 n0 c0] := rfl
  rw [hcs] at hf
  rcases open_ints Try.underlying22 Try.underlying2 Try.cells2 hf with ⟨hv, _⟩ | ⟨a, len, cap, zs, hv, _, hl, hm, hz, _, hi, _⟩
  · have hv' : Value.slice a0 n0 c0 = .slice none 0 0 := by simpa using hv
    rw [hv']
    exact ⟨none, 0, [], rfl, Nat.le_refl _, by unfold maxLen; omega, RdI.nil, fun _ => rfl⟩
  · have hv' : Value.slice a0 n0 c0 = .slice (some a) len cap := by simpa using hv
    rw [hv']
    have hzl : zs.length = cap := by rw [hz]; simp
    have hlen : (zs.take len).length = len := by rw [List.length_take]; omega
    refine ⟨some a, cap, zs.take len, by rw [hlen], by rw [hlen]; exact hl, hm, fun k hk => ?_, fun h => by cases h⟩
    rw [hlen] at hk
    obtain ⟨b, o, sp⟩ := a
    have hsp : sp = none := by
      have := World.cell?_spot (hi 0 (by omega))
      simpa [Addr.add] using this
    subst hsp
    have g1 := hi k (by omega)
    rw [add_plain0] at g1
    refine ⟨b, o, rfl, World.block_lt_of_cell? W _ g1, ?_⟩
    rw [g1, List.getElem_take]
    have hkz : k < zs.length := by omega
    simp [List.getD, List.getElem?_eq_getElem hkz]

end

set_option maxRecDepth 100000 in
theorem fenwicksSet_lifted (os : Os) (started : os.Started) (H : Type) (enc : TypeId × Value → H) :
    ReturnsInHanded {} Try.checked os 6 .any (Rows.fenwicksSetSpec.pre6 enc Try.prog Try.f6 Rows.fenwicksSetRow.domain false) (Rows.fenwicksSetSpec.post enc Try.prog Try.f6 false true false false) := by
  refine returnsInHanded_of_change (C := Try.checked) Try.own started (by kernel_rfl) Try.func6
    (ChangeSpec.witness6 (enc := enc) (C := Try.checked) false ⟨#[], #[.slice none 0 0, .slice none 0 0], []⟩ 8 (by kernel_rfl) (by kernel_rfl) (by kernel_rfl) (by kernel_rfl)) ?_
  intro W base args ds gs before hval0 hW hcnd _
  have hval : ∀ (j : Nat) t v, Try.f6.params[j]? = some t → args[j]? = some v → Value.okWide Try.prog W .any base t v := hval0
  have hW' := hW
  obtain ⟨p, q, hA0, hV, rfl, hfz, hnd⟩ := hW
  have hA : DataW.TrodAll enc Try.prog W 0 (fun _ => true) true Try.f6.params.toList args.toList ds p := hA0
  have hA2 := hA
  rw [Try.params6] at hA2 hval
  obtain ⟨v0, v1, d0, d1, p0, p1, rfl, rfl, rfl, h0, h1⟩ := trodAll_two hA2
  obtain ⟨rfl, rfl⟩ := trodVars_none hV
  obtain ⟨A, c, zs, rfl, hc, hm, hr, hA0'⟩ := open_places0 h0 (hval 0 22 v0 rfl rfl)
  obtain ⟨C, d, st, rfl, hd, hm2, hst⟩ := open_steps h1 (hval 1 44 v1 rfl rfl)
  unfold maxLen at hm hm2
  refine (law4_any lives_any A C c d zs st W hr hst hA0' (by omega) (by omega)).mono fun e W' ⟨he, hb⟩ => ?_
  subst he
  simp only [List.append_nil] at hW' hA
  exact ⟨_, rfl, law_post (tb := 4) Try.laidOut (by kernel_rfl) rfl (by kernel_rfl) Try.underlying4 rfl hW' hA hb⟩

theorem fenwicksSet_holds : Rows.FenwicksSetSaid :=
  OpenClaim.holds_of_wide 6 Try.f6 rfl rfl rfl rfl rfl rfl rfl ⟨rfl, rfl, rfl, rfl, rfl⟩ rfl rfl rfl rfl rfl (by kernel_rfl) Try.func6 (by kernel_rfl)
    (of_decide_eq_true (by kernel_rfl)) (by unfold Func.isWrapper; first | (rw [if_pos (by decide +kernel)]; kernel_rfl) | (rw [if_neg (by decide +kernel)]; exact ⟨rfl, rfl⟩))
    (fun os started H enc _ => fenwicksSet_lifted os started H enc)
end Go.Proofs.Ythdohijhioocgaa
