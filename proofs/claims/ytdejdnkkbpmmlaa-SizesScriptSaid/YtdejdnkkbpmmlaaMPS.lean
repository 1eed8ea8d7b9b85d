/-
  For every I and every list of steps, SizesScript returns true, and its arguments read as they did: whatever rows are inserted, removed, moved and set, the index has the rows of the definition, with its errors, and the index that was there stays; the examples hold.
  Conditions: none beside the row's own.
-/
import Derived.Test.YtdejdnkkbpmmlaaMOpenS
import Derived.Test.YtdejdnkkbpmmlaaMLw5W
namespace Go.Proofs.Ytdejdnkkbpmmlaa
open Go.ChangeShapes Go.WideShapes Go.ChangeAt Go.RowKit Go.Deep

set_option maxRecDepth 100000 in
theorem sizesScript_lifted (os : Os) (started : os.Started) (H : Type) (enc : TypeId × Value → H) :
    ReturnsInHanded {} Try.checked os 5 .any (Rows.sizesScriptSpec.pre6 enc Try.prog Try.f5 Rows.sizesScriptRow.domain false) (Rows.sizesScriptSpec.post enc Try.prog Try.f5 false true false false) := by
  refine returnsInHanded_of_change (C := Try.checked) Try.own started (by kernel_rfl) Try.func5
    (ChangeSpec.witness6 (enc := enc) (C := Try.checked) false ⟨#[], #[.agg #[.slice none 0 0, .bool false], .slice none 0 0], []⟩ 8 (by kernel_rfl) (by kernel_rfl) (by kernel_rfl) (by kernel_rfl)) ?_
  intro W base args ds gs before hval0 hW hcnd _
  have hval : ∀ (j : Nat) t v, Try.f5.params[j]? = some t → args[j]? = some v → Value.okWide Try.prog W .any base t v := hval0
  have hW' := hW
  obtain ⟨p, q, hA0, hV, rfl, hfz, hnd⟩ := hW
  have hA : DataW.TrodAll enc Try.prog W 0 (fun _ => true) true Try.f5.params.toList args.toList ds p := hA0
  have hA2 := hA
  rw [Try.params5] at hA2 hval
  obtain ⟨v0, v1, d0, d1, p0, p1, rfl, rfl, rfl, h0, h1⟩ := trodAll_two hA2
  obtain ⟨rfl, rfl⟩ := trodVars_none hV
  obtain ⟨A, c, us, g, rfl, hc, hm, hr⟩ := open_I h0 (hval 0 24 v0 rfl rfl)
  obtain ⟨B, d, xs, rfl, hx⟩ := open_steps h1 (hval 1 52 v1 rfl rfl)
  unfold maxLen at hm
  have hlaw : Calls Try.prog 5 #[.agg #[.slice A us.length c, .bool g], .slice B xs.length d] W fun e w' => e = .returned (.bool true) ∧ Below W.heap.size W w' := by
    by_cases hl : 15 < xs.length
    · exact law5_long A B c d us g xs W hl
    · exact law5_short A c us g B d xs W hr hc hm hx (by omega)
  refine hlaw.mono fun e W' ⟨he, hb⟩ => ?_
  subst he
  simp only [List.append_nil] at hW' hA
  exact ⟨_, rfl, law_post (tb := 4) Try.laidOut (by kernel_rfl) rfl (by kernel_rfl) Try.underlying4 rfl hW' hA hb⟩

theorem sizesScript_holds : Rows.SizesScriptSaid :=
  OpenClaim.holds_of_wide 5 Try.f5 rfl rfl rfl rfl rfl rfl rfl ⟨rfl, rfl, rfl, rfl, rfl⟩ rfl rfl rfl rfl rfl (by kernel_rfl) Try.func5 (by kernel_rfl)
    (of_decide_eq_true (by kernel_rfl)) (by unfold Func.isWrapper; first | (rw [if_pos (by decide +kernel)]; kernel_rfl) | (rw [if_neg (by decide +kernel)]; exact ⟨rfl, rfl⟩))
    (fun os started H enc _ => sizesScript_lifted os started H enc)
end Go.Proofs.Ytdejdnkkbpmmlaa
