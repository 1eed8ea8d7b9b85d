/-
  For every two lists of numbers and every three numbers, GapsBack returns true: what is put in, and taken out again, changes nothing, nor does what is moved, and moved back; the examples hold.
  Conditions: none beside the row's own.
-/
import Derived.Test.YtecoobeddjfegaaRow
import Derived.Test.YtecoobeddjfegaaBackW
import Derived.OpenShut
namespace Go.Proofs.Ytecoobeddjfegaa
open Go.ChangeShapes Go.WideShapes Go.ChangeAt Go.RowKit Go.Deep

theorem law3_any (hL : LivesOk) (A C : Option Addr) (c d : Nat) (z0 z1 z2 : Nat) (zs ms : List Int) (w : World) (hr : RdV w w.heap.size A (iv zs)) (hr2 : RdV w w.heap.size C (iv ms)) (hl : zs.length ≤ 9223372036854775807) (hl2 : ms.length ≤ 9223372036854775807) (hz0 : z0 ≤ 255) (hz1 : z1 ≤ 255) (hz2 : z2 ≤ 255) :
    Calls Try.prog 3 #[.slice A zs.length c, .slice C ms.length d, .agg #[.int .u8 z0, .int .u8 z1, .int .u8 z2]] w fun e w' => e = .returned (.bool true) ∧ Below w.heap.size w w' := by
  rcases Nat.lt_or_ge 40 zs.length with h | h
  · exact law3_long hL A C _ c _ d z0 z1 z2 w (.inl h) hl hl2
  · rcases Nat.lt_or_ge 20 ms.length with h2 | h2
    · exact law3_long hL A C _ c _ d z0 z1 z2 w (.inr ⟨h, h2⟩) hl hl2
    · exact law3_ok hL A C _ c _ d z0 z1 z2 zs ms w hr hr2 rfl rfl h h2 hz0 hz1 hz2

theorem wf_u8_le {i : Int} (h : (Lit.int .u8 i).wf = true) : ∃ n : Nat, i = (n : Int) ∧ n ≤ 255 := by
  have h2 : 0 ≤ i ∧ i ≤ 255 := by
    simp [Lit.wf, IntKind.min, IntKind.max, IntKind.signed, IntKind.bits] at h
    omega
  exact ⟨i.toNat, by omega, by omega⟩
theorem Try.cells5 : Try.prog.cellsOf 5 = 1 := by kernel_rfl
theorem Try.cells23 : Try.prog.cellsOf 23 = 3 := by kernel_rfl
/-- an argument that is an array of three small numbers -/
theorem open_z {H : Type} {enc : TypeId × Value → H} {W : World} {v : Value} {d : DataW H} {ps : List MemPlace} (h : DataW.Trod enc Try.prog W 0 (fun _ => true) true 23 v d ps) (hval : Value.okWide Try.prog W .any 0 23 v) :
    ∃ a b c : Nat, v = .agg #[.int .u8 a, .int .u8 b, .int .u8 c] ∧ a ≤ 255 ∧ b ≤ 255 ∧ c ≤ 255 := by
  simp only [Value.okWide, Try.underlying23] at hval
  obtain ⟨cs, rfl, hsz, hok⟩ := hval
  rw [Try.cells23] at hsz
  obtain ⟨l⟩ := cs
  match l, hsz with
  | [x, y, z], _ =>
    obtain ⟨fuel, hf⟩ := h
    have hcs : (Value.agg #[x, y, z]).cells.toList = [x, y, z] := rfl
    rw [hcs] at hf
    obtain ⟨zs, m, _, _, _, hl, hi⟩ := DataW.trod_array Try.underlying23 hf
    rw [Try.cells5] at hi
    match zs, hl with
    | [z0, z1, z2], _ =>
      have t0 := hi 0 (by omega)
      have t1 := hi 1 (by omega)
      have t2 := hi 2 (by omega)
      simp only [Nat.mul_one, List.drop_zero, List.drop_succ_cons, List.take_succ_cons, List.take_zero, List.getElem?_cons_zero, List.getElem?_cons_succ] at t0 t1 t2
      obtain ⟨a, ha, _, wa⟩ := DataW.trod_int Try.underlying5 t0
      obtain ⟨b, hb, _, wb⟩ := DataW.trod_int Try.underlying5 t1
      obtain ⟨c, hc, _, wc⟩ := DataW.trod_int Try.underlying5 t2
      obtain ⟨a', rfl, ha'⟩ := wf_u8_le wa
      obtain ⟨b', rfl, hb'⟩ := wf_u8_le wb
      obtain ⟨c', rfl, hc'⟩ := wf_u8_le wc
      have hx : x = .int .u8 a' := by simpa using ha
      have hy : y = .int .u8 b' := by simpa using hb
      have hz : z = .int .u8 c' := by simpa using hc
      exact ⟨a', b', c', by rw [hx, hy, hz], ha', hb', hc'⟩

set_option maxRecDepth 100000 in
theorem gapsBack_lifted (os : Os) (started : os.Started) (H : Type) (enc : TypeId × Value → H) :
    ReturnsInHanded {} Try.checked os 3 .any (Rows.gapsBackSpec.pre6 enc Try.prog Try.f3 Rows.gapsBackRow.domain false) (Rows.gapsBackSpec.post enc Try.prog Try.f3 false true false false) := by
  refine returnsInHanded_of_change (C := Try.checked) Try.own started (by kernel_rfl) Try.func3
    (ChangeSpec.witness6 (enc := enc) (C := Try.checked) false ⟨#[], #[.slice none 0 0, .slice none 0 0, .agg #[.int .u8 0, .int .u8 0, .int .u8 0]], []⟩ 8 (by kernel_rfl) (by kernel_rfl) (by kernel_rfl) (by kernel_rfl)) ?_
  intro W base args ds gs before hval0 hW hcnd _
  have hval : ∀ (j : Nat) t v, Try.f3.params[j]? = some t → args[j]? = some v → Value.okWide Try.prog W .any base t v := hval0
  have hW' := hW
  obtain ⟨p, q, hA0, hV, rfl, hfz, hnd⟩ := hW
  have hA : DataW.TrodAll enc Try.prog W 0 (fun _ => true) true Try.f3.params.toList args.toList ds p := hA0
  have hA2 := hA
  rw [Try.params3] at hA2 hval
  obtain ⟨v0, v1, v2, d0, d1, d2, p0, p1, p2, rfl, rfl, rfl, h0, h1, h2⟩ := trodAll_three hA2
  obtain ⟨rfl, rfl⟩ := trodVars_none hV
  obtain ⟨A, c, zs, rfl, hc, hm, hr, _⟩ := open_places h0 (hval 0 22 v0 rfl rfl)
  obtain ⟨C, d, ms, rfl, hc2, hm2, hr2, _⟩ := open_places h1 (hval 1 22 v1 rfl rfl)
  obtain ⟨z0, z1, z2, rfl, hz0, hz1, hz2⟩ := open_z h2 (hval 2 23 v2 rfl rfl)
  unfold maxLen at hm hm2
  refine (law3_any lives_any A C c d z0 z1 z2 zs ms W hr hr2 (by omega) (by omega) hz0 hz1 hz2).mono fun e W' ⟨he, hb⟩ => ?_
  subst he
  simp only [List.append_nil] at hW' hA
  exact ⟨_, rfl, law_post (tb := 4) Try.laidOut (by kernel_rfl) rfl (by kernel_rfl) Try.underlying4 rfl hW' hA hb⟩

theorem gapsBack_holds : Rows.GapsBackSaid :=
  OpenClaim.holds_of_wide 3 Try.f3 rfl rfl rfl rfl rfl rfl rfl ⟨rfl, rfl, rfl, rfl, rfl⟩ rfl rfl rfl rfl rfl (by kernel_rfl) Try.func3 (by kernel_rfl)
    (of_decide_eq_true (by kernel_rfl)) (by unfold Func.isWrapper; first | (rw [if_pos (by decide +kernel)]; kernel_rfl) | (rw [if_neg (by decide +kernel)]; exact ⟨rfl, rfl⟩))
    (fun os started H enc _ => gapsBack_lifted os started H enc)
end Go.Proofs.Ytecoobeddjfegaa
