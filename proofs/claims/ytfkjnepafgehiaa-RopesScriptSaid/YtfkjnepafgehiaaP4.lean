/-
  For every R and every list of steps, RopesScript returns true, and its arguments read as they did: whatever sizes are inserted, removed, moved and set, the rope has the sizes of the definition, with its errors, and the rope that was there stays; the examples hold.
  Conditions: none beside the row's own.
-/
import Derived.Test.YtfkjnepafgehiaaOpenS
import Derived.Test.YtfkjnepafgehiaaLaw4W
namespace Go.Proofs.Ytfkjnepafgehiaa
open Go.ChangeShapes Go.WideShapes Go.ChangeAt Go.RowKit Go.Deep

set_option maxRecDepth 100000 in
theorem ropesScript_lifted (os : Os) (started : os.Started) (H : Type) (enc : TypeId × Value → H) :
    ReturnsInHanded {} Try.checked os 6 .any (Rows.ropesScriptSpec.pre6 enc Try.prog Try.f6 Rows.ropesScriptRow.domain false) (Rows.ropesScriptSpec.post enc Try.prog Try.f6 false true false false) := by
  refine returnsInHanded_of_change (C := Try.checked) Try.own started (by kernel_rfl) Try.func6
    (ChangeSpec.witness6 (enc := enc) (C := Try.checked) false ⟨#[], #[.agg #[.slice none 0 0, .bool false], .slice none 0 0], []⟩ 8 (by kernel_rfl) (by kernel_rfl) (by kernel_rfl) (by kernel_rfl)) ?_
  intro W base args ds gs before hval0 hW hcnd _
  have hval : ∀ (j : Nat) t v, Try.f6.params[j]? = some t → args[j]? = some v → Value.okWide Try.prog W .any base t v := hval0
  have hW' := hW
  obtain ⟨p, q, hA0, hV, rfl, hfz, hnd⟩ := hW
  have hA : DataW.TrodAll enc Try.prog W 0 (fun _ => true) true Try.f6.params.toList args.toList ds p := hA0
  have hA2 := hA
  rw [Try.params6] at hA2 hval
  obtain ⟨v0, v1, d0, d1, p0, p1, rfl, rfl, rfl, h0, h1⟩ := trodAll_two hA2
  obtain ⟨rfl, rfl⟩ := trodVars_none hV
  obtain ⟨A, c, us, g, rfl, hc, hm, hr⟩ := open_R h0 (hval 0 35 v0 rfl rfl)
  obtain ⟨B, d, xs, rfl, hx⟩ := open_steps h1 (hval 1 54 v1 rfl rfl)
  unfold maxLen at hm
  have hlaw : Calls Try.prog 6 #[.agg #[.slice A us.length c, .bool g], .slice B xs.length d] W fun e w' => e = .returned (.bool true) ∧ Below W.heap.size W w' := by
    by_cases hl : 20 < xs.length
    · exact law4_long lives_any A B c d us g xs W hl
    · exact law4_short lives_any A B c d us g xs W hr hx hc hm (by omega)
  refine hlaw.mono fun e W' ⟨he, hb⟩ => ?_
  subst he
  simp only [List.append_nil] at hW' hA
  exact ⟨_, rfl, law_post (tb := 4) Try.laidOut (by kernel_rfl) rfl (by kernel_rfl) Try.underlying4 rfl hW' hA hb⟩

theorem ropesScript_holds : Rows.RopesScriptSaid :=
  OpenClaim.holds_of_wide 6 Try.f6 rfl rfl rfl rfl rfl rfl rfl ⟨rfl, rfl, rfl, rfl, rfl⟩ rfl rfl rfl rfl rfl (by kernel_rfl) Try.func6 (by kernel_rfl)
    (of_decide_eq_true (by kernel_rfl)) (by unfold Func.isWrapper; first | (rw [if_pos (by decide +kernel)]; kernel_rfl) | (rw [if_neg (by decide +kernel)]; exact ⟨rfl, rfl⟩))
    (fun os started H enc _ => ropesScript_lifted os started H enc)
end Go.Proofs.Ytfkjnepafgehiaa
