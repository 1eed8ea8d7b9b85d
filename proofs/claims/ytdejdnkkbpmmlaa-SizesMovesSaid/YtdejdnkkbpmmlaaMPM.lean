/-
  For every I and every three numbers, SizesMoves returns true, and its argument reads as it did: rows that are moved, and moved back, are as before; what is removed makes the total less by its sizes; the examples hold.
  Conditions: none beside the row's own.
-/
import Derived.Test.YtdejdnkkbpmmlaaMOpenI
import Derived.Test.YtdejdnkkbpmmlaaMLw6W
import Derived.OpenShut
namespace Go.Proofs.Ytdejdnkkbpmmlaa
open Go.ChangeShapes Go.WideShapes Go.ChangeAt Go.RowKit Go.Deep

theorem Try.cells67 : Try.prog.cellsOf 67 = 3 := by kernel_rfl
set_option maxRecDepth 100000 in
/-- an argument of three bytes -/
theorem open_three {H : Type} {enc : TypeId × Value → H} {W : World} {v : Value} {d : DataW H} {ps : List MemPlace} (h : DataW.Trod enc Try.prog W 0 (fun _ => true) true 67 v d ps) (hval : Value.okWide Try.prog W .any 0 67 v) :
    ∃ z0 z1 z2 : Nat, v = .agg #[.int .u8 z0, .int .u8 z1, .int .u8 z2] ∧ z0 ≤ 255 ∧ z1 ≤ 255 ∧ z2 ≤ 255 := by
  simp only [Value.okWide, Try.underlying67] at hval
  obtain ⟨cs, rfl, hsz, _⟩ := hval
  rw [Try.cells67] at hsz
  obtain ⟨l⟩ := cs
  match l, hsz with
  | [x, y, z], _ =>
    obtain ⟨fuel, hf⟩ := h
    have hcs : (Value.agg #[x, y, z]).cells.toList = [x, y, z] := rfl
    rw [hcs] at hf
    obtain ⟨zs, m, _, _, _, hl, hi⟩ := DataW.trod_array Try.underlying67 hf
    rw [Try.cells5] at hi
    match zs, hl with
    | [y0, y1, y2], _ =>
      have t0 := hi 0 (by omega)
      have t1 := hi 1 (by omega)
      have t2 := hi 2 (by omega)
      simp only [Nat.zero_mul, Nat.one_mul, Nat.reduceMul, List.drop_zero, List.drop_succ_cons, List.take_succ_cons, List.take_zero, List.getElem?_cons_zero, List.getElem?_cons_succ] at t0 t1 t2
      obtain ⟨a, ha, _, wa⟩ := DataW.trod_int Try.underlying5 t0
      obtain ⟨b, hb, _, wb⟩ := DataW.trod_int Try.underlying5 t1
      obtain ⟨c, hc, _, wc⟩ := DataW.trod_int Try.underlying5 t2
      have ha' : x = .int .u8 a := by simpa using ha
      have hb' : y = .int .u8 b := by simpa using hb
      have hc' : z = .int .u8 c := by simpa using hc
      obtain ⟨a', rfl, ha1⟩ := wf_u8 wa
      obtain ⟨b', rfl, hb1⟩ := wf_u8 wb
      obtain ⟨c', rfl, hc1⟩ := wf_u8 wc
      exact ⟨a', b', c', by rw [ha', hb', hc'], ha1, hb1, hc1⟩

set_option maxRecDepth 100000 in
theorem sizesMoves_lifted (os : Os) (started : os.Started) (H : Type) (enc : TypeId × Value → H) :
    ReturnsInHanded {} Try.checked os 6 .any (Rows.sizesMovesSpec.pre6 enc Try.prog Try.f6 Rows.sizesMovesRow.domain false) (Rows.sizesMovesSpec.post enc Try.prog Try.f6 false true false false) := by
  refine returnsInHanded_of_change (C := Try.checked) Try.own started (by kernel_rfl) Try.func6
    (ChangeSpec.witness6 (enc := enc) (C := Try.checked) false ⟨#[], #[.agg #[.slice none 0 0, .bool false], .agg #[.int .u8 0, .int .u8 0, .int .u8 0]], []⟩ 8 (by kernel_rfl) (by kernel_rfl) (by kernel_rfl) (by kernel_rfl)) ?_
  intro W base args ds gs before hval0 hW hcnd _
  have hval : ∀ (j : Nat) t v, Try.f6.params[j]? = some t → args[j]? = some v → Value.okWide Try.prog W .any base t v := hval0
  have hW' := hW
  obtain ⟨p, q, hA0, hV, rfl, hfz, hnd⟩ := hW
  have hA : DataW.TrodAll enc Try.prog W 0 (fun _ => true) true Try.f6.params.toList args.toList ds p := hA0
  have hA2 := hA
  rw [Try.params6] at hA2 hval
  obtain ⟨v0, v1, d0, d1, p0, p1, rfl, rfl, rfl, h0, h1⟩ := trodAll_two hA2
  obtain ⟨rfl, rfl⟩ := trodVars_none hV
  obtain ⟨A, c, us, g, rfl, hc, hm, hr⟩ := open_I h0 (hval 0 24 v0 rfl rfl)
  obtain ⟨z0, z1, z2, rfl, hz0, hz1, hz2⟩ := open_three h1 (hval 1 67 v1 rfl rfl)
  unfold maxLen at hm
  refine (law6_any A c us g z0 z1 z2 W hr hc hm hz0 hz1 hz2).mono fun e W' ⟨he, hb⟩ => ?_
  subst he
  simp only [List.append_nil] at hW' hA
  exact ⟨_, rfl, law_post (tb := 4) Try.laidOut (by kernel_rfl) rfl (by kernel_rfl) Try.underlying4 rfl hW' hA hb⟩

theorem sizesMoves_holds : Rows.SizesMovesSaid :=
  OpenClaim.holds_of_wide 6 Try.f6 rfl rfl rfl rfl rfl rfl rfl ⟨rfl, rfl, rfl, rfl, rfl⟩ rfl rfl rfl rfl rfl (by kernel_rfl) Try.func6 (by kernel_rfl)
    (of_decide_eq_true (by kernel_rfl)) (by unfold Func.isWrapper; first | (rw [if_pos (by decide +kernel)]; kernel_rfl) | (rw [if_neg (by decide +kernel)]; exact ⟨rfl, rfl⟩))
    (fun os started H enc _ => sizesMoves_lifted os started H enc)
end Go.Proofs.Ytdejdnkkbpmmlaa
