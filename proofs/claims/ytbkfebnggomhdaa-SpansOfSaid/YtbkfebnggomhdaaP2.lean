/-
  For every list of places, SpansOf returns true, and its argument reads as it did: the set of some places is that of the definition, or a place is refused; the examples hold.
  Conditions: none beside the row's own.
-/
import Derived.Test.YtbkfebnggomhdaaRow
import Derived.Test.YtbkfebnggomhdaaLaw2W
import Derived.Test.YtbkfebnggomhdaaLives
namespace Go.Proofs.Ytbkfebnggomhdaa
open Go.ChangeShapes Go.WideShapes Go.ChangeAt Go.RowKit Go.Deep

/-- an argument that is a list of ints -/
theorem open_places {H : Type} {enc : TypeId × Value → H} {W : World} {v : Value} {d : DataW H} {ps : List MemPlace} (h : DataW.Trod enc Try.prog W 0 (fun _ => true) true 34 v d ps) (hval : Value.okWide Try.prog W .any 0 34 v) :
    ∃ A c zs, v = .slice A (zs : List Int).length c ∧ zs.length ≤ c ∧ c ≤ maxLen ∧ RdI W W.heap.size A zs := by
  obtain ⟨a0, n0, c0, rfl⟩ := okWide_slice Try.underlying34 hval
  obtain ⟨fuel, hf⟩ := h
  have hcs : (Value.slice a0 n0 c0).cells.toList = [Value.slice a0 n0 c0] := rfl
  rw [hcs] at hf
  rcases open_ints Try.underlying34 Try.underlying3 Try.cells3 hf with ⟨hv, _⟩ | ⟨a, len, cap, zs, hv, _, hl, hm, hz, _, hi, _⟩
  · have hv' : Value.slice a0 n0 c0 = .slice none 0 0 := by simpa using hv
    rw [hv']
    exact ⟨none, 0, [], rfl, Nat.le_refl _, by unfold maxLen; omega, RdI.nil⟩
  · have hv' : Value.slice a0 n0 c0 = .slice (some a) len cap := by simpa using hv
    rw [hv']
    have hzl : zs.length = cap := by rw [hz]; simp
    have hlen : (zs.take len).length = len := by rw [List.length_take]; omega
    refine ⟨some a, cap, zs.take len, by rw [hlen], by rw [hlen]; exact hl, hm, fun k hk => ?_⟩
    rw [hlen] at hk
    obtain ⟨b, o, sp⟩ := a
    have hsp : sp = none := by
      have := World.cell?_spot (hi 0 (by omega))
      simpa [Addr.add] using this
    subst hsp
    have g1 := hi k (by omega)
    rw [add_plain0] at g1
    refine ⟨b, o, rfl, World.block_lt_of_cell? W _ g1, ?_⟩
    rw [g1, List.getElem_take]
    have hkz : k < zs.length := by omega
    simp [List.getD, List.getElem?_eq_getElem hkz]

set_option maxRecDepth 100000 in
theorem spansOf_lifted (os : Os) (started : os.Started) (H : Type) (enc : TypeId × Value → H) :
    ReturnsInHanded {} Try.checked os 4 .any (Rows.spansOfSpec.pre6 enc Try.prog Try.f4 Rows.spansOfRow.domain false) (Rows.spansOfSpec.post enc Try.prog Try.f4 false true false false) := by
  refine returnsInHanded_of_change (C := Try.checked) Try.own started (by kernel_rfl) Try.func4
    (ChangeSpec.witness6 (enc := enc) (C := Try.checked) false ⟨#[], #[.slice none 0 0], []⟩ 8 (by kernel_rfl) (by kernel_rfl) (by kernel_rfl) (by kernel_rfl)) ?_
  intro W base args ds gs before hval0 hW hcnd _
  have hval : ∀ (j : Nat) t v, Try.f4.params[j]? = some t → args[j]? = some v → Value.okWide Try.prog W .any base t v := hval0
  have hW' := hW
  obtain ⟨p, q, hA0, hV, rfl, hfz, hnd⟩ := hW
  have hA : DataW.TrodAll enc Try.prog W 0 (fun _ => true) true Try.f4.params.toList args.toList ds p := hA0
  have hA2 := hA
  rw [Try.params4] at hA2 hval
  obtain ⟨v0, d0, rfl, rfl, h0⟩ := trodAll_one hA2
  obtain ⟨rfl, rfl⟩ := trodVars_none hV
  obtain ⟨A, c, zs, rfl, hc, hm, hr⟩ := open_places h0 (hval 0 34 v0 rfl rfl)
  unfold maxLen at hm
  refine (law2_any lives_any A c zs W hr (by omega)).mono fun e W' ⟨he, hb⟩ => ?_
  subst he
  simp only [List.append_nil] at hW' hA
  exact ⟨_, rfl, law_post (tb := 4) Try.laidOut (by kernel_rfl) rfl (by kernel_rfl) Try.underlying4 rfl hW' hA hb⟩

theorem spansOf_holds : Rows.SpansOfSaid :=
  OpenClaim.holds_of_wide 4 Try.f4 rfl rfl rfl rfl rfl rfl rfl ⟨rfl, rfl, rfl, rfl, rfl⟩ rfl rfl rfl rfl rfl (by kernel_rfl) Try.func4 (by kernel_rfl)
    (of_decide_eq_true (by kernel_rfl)) (by unfold Func.isWrapper; first | (rw [if_pos (by decide +kernel)]; kernel_rfl) | (rw [if_neg (by decide +kernel)]; exact ⟨rfl, rfl⟩))
    (fun os started H enc _ => spansOf_lifted os started H enc)
end Go.Proofs.Ytbkfebnggomhdaa
