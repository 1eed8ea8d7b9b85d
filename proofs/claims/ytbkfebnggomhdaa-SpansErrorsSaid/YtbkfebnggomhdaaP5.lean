/-
  For every two lists of spans and two numbers, SpansErrors returns true, and its arguments read as they did: sets that are not valid, and numbers that are not allowed, are refused in order; far places are moved as near ones; the examples hold.
  Conditions: none beside the row's own.
-/
import Derived.Test.YtbkfebnggomhdaaRow
import Derived.OpenShut
import Derived.Test.YtbkfebnggomhdaaL5P
import Derived.Test.YtbkfebnggomhdaaL5Qb
import Derived.Test.YtbkfebnggomhdaaL5Zb
import Derived.Test.YtbkfebnggomhdaaL5Qnoroom
import Derived.Test.YtbkfebnggomhdaaL5Qroom0
import Derived.Test.YtbkfebnggomhdaaL5Qroomlow
import Derived.Test.YtbkfebnggomhdaaL5Qroomhigh
import Derived.Test.YtbkfebnggomhdaaL5Znoroom
import Derived.Test.YtbkfebnggomhdaaL5Zroom0
import Derived.Test.YtbkfebnggomhdaaL5Zroomlow
import Derived.Test.YtbkfebnggomhdaaL5Zroomhigh
import Derived.Test.YtbkfebnggomhdaaLives
namespace Go.Proofs.Ytbkfebnggomhdaa
open Go.ChangeShapes Go.WideShapes Go.ChangeAt Go.RowKit Go.Deep

set_option maxRecDepth 100000 in
set_option maxHeartbeats 2000000 in
theorem law5_long (hL : Lives5) (A B : Option Addr) (ca cb na nb : Nat) (at_ n : Int) (w : World) (hna : na ≤ 9223372036854775807) (hnb : nb ≤ 9223372036854775807) (h : 40 < na ∨ 40 < nb) :
    Calls Try.prog 7 #[.slice A na ca, .slice B nb cb, .agg #[.int .i64 at_, .int .i64 n]] w fun e w' => e = .returned (.bool true) ∧ Below w.heap.size w w' := by
  have HL := Lib.hid hL; clear hL
  have hb := below_allocN w (.cells #[.int .i64 at_, .int .i64 n] 51)
  by_cases h1 : 40 < na
  · have hd : decide ((40 : Int) < (na : Int)) = true := by simp; omega
    go_enter Try.func7, Try.ntmps7
    go_wp2_with fail
    refine (HL.out _).mono ?_
    rintro e w1 ⟨rfl, k1⟩
    go_wp2_with fail
    go_ret
    exact ⟨rfl, hb.trans (k1.mono hb.size)⟩
  · have h2 : 40 < nb := by omega
    have hd : decide ((40 : Int) < (na : Int)) = false := by simp; omega
    have hd2 : decide ((40 : Int) < (nb : Int)) = true := by simp; omega
    clear h
    go_enter Try.func7, Try.ntmps7
    go_wp2_with fail
    refine (HL.out _).mono ?_
    rintro e w1 ⟨rfl, k1⟩
    go_wp2_with fail
    go_ret
    exact ⟨rfl, hb.trans (k1.mono hb.size)⟩

theorem law5_any (hL : Lives5) (A B : Option Addr) (ca cb : Nat) (xa xb : List Sp) (at_ n : Int) (w : World) (hra : Rd w w.heap.size A xa) (hrb : Rd w w.heap.size B xb) (hla : xa.length ≤ 9223372036854775807) (hlb : xb.length ≤ 9223372036854775807) (hca : xa.length ≤ ca) (hcb : xb.length ≤ cb) :
    Calls Try.prog 7 #[.slice A xa.length ca, .slice B xb.length cb, .agg #[.int .i64 at_, .int .i64 n]] w fun e w' => e = .returned (.bool true) ∧ Below w.heap.size w w' := by
  by_cases hlong : 40 < xa.length ∨ 40 < xb.length
  · exact law5_long hL A B ca cb _ _ at_ n w hla hlb hlong
  have la : xa.length ≤ 40 := by omega
  have lb : xb.length ≤ 40 := by omega
  by_cases hp : chk xa = 0
  · have hq : ∃ q, chk xb = q := ⟨_, rfl⟩
    obtain ⟨q, hq⟩ := hq
    by_cases h0 : 0 ≤ at_
    · by_cases h1 : at_ ≤ 1073741824
      · by_cases h2 : 0 ≤ n
        · by_cases h3 : n ≤ 1073741824
          · rcases Nat.eq_zero_or_pos xa.length with hz | hpos
            · by_cases hq0 : q = 0
              · exact law5_Zroom0 hL A B ca cb xa xb at_ n w hra hrb la lb hca hcb hp (hq.trans hq0) h0 h1 h2 h3 hz
              · exact law5_Qroom0 hL A B ca cb xa xb at_ n q w hra hrb la lb hca hcb hp hq hq0 h0 h1 h2 h3 hz
            · by_cases hr1 : endOf (-1) xa ≤ at_
              · by_cases hq0 : q = 0
                · exact law5_Zroomlow hL A B ca cb xa xb at_ n w hra hrb la lb hca hcb hp (hq.trans hq0) h0 h1 h2 h3 hpos hr1
                · exact law5_Qroomlow hL A B ca cb xa xb at_ n q w hra hrb la lb hca hcb hp hq hq0 h0 h1 h2 h3 hpos hr1
              · by_cases hr2 : endOf (-1) xa + n ≤ 1073741824
                · by_cases hq0 : q = 0
                  · exact law5_Zroomhigh hL A B ca cb xa xb at_ n w hra hrb la lb hca hcb hp (hq.trans hq0) h0 h1 h2 h3 hpos (by omega) hr2
                  · exact law5_Qroomhigh hL A B ca cb xa xb at_ n q w hra hrb la lb hca hcb hp hq hq0 h0 h1 h2 h3 hpos (by omega) hr2
                · by_cases hq0 : q = 0
                  · exact law5_Znoroom hL A B ca cb xa xb at_ n w hra hrb la lb hca hcb hp (hq.trans hq0) h0 h1 h2 h3 hpos (by omega) (by omega)
                  · exact law5_Qnoroom hL A B ca cb xa xb at_ n q w hra hrb la lb hca hcb hp hq hq0 h0 h1 h2 h3 hpos (by omega) (by omega)
          · by_cases hq0 : q = 0
            · exact law5_Zbad4 hL A B ca cb xa xb at_ n w hra hrb la lb hca hcb hp (hq.trans hq0) h0 h1 h2 (by omega)
            · exact law5_Qbad4 hL A B ca cb xa xb at_ n q w hra hrb la lb hca hcb hp hq hq0 h0 h1 h2 (by omega)
        · by_cases hq0 : q = 0
          · exact law5_Zbad3 hL A B ca cb xa xb at_ n w hra hrb la lb hca hcb hp (hq.trans hq0) h0 h1 (by omega)
          · exact law5_Qbad3 hL A B ca cb xa xb at_ n q w hra hrb la lb hca hcb hp hq hq0 h0 h1 (by omega)
      · by_cases hq0 : q = 0
        · exact law5_Zbad2 hL A B ca cb xa xb at_ n w hra hrb la lb hca hcb hp (hq.trans hq0) h0 (by omega)
        · exact law5_Qbad2 hL A B ca cb xa xb at_ n q w hra hrb la lb hca hcb hp hq hq0 h0 (by omega)
    · by_cases hq0 : q = 0
      · exact law5_Zbad1 hL A B ca cb xa xb at_ n w hra hrb la lb hca hcb hp (hq.trans hq0) (by omega)
      · exact law5_Qbad1 hL A B ca cb xa xb at_ n q w hra hrb la lb hca hcb hp hq hq0 (by omega)
  · exact law5_P hL A B ca cb xa xb at_ n _ _ w hra hrb la lb hca hcb rfl rfl hp

/-- an argument that is a pair of numbers -/
theorem open_two {H : Type} {enc : TypeId × Value → H} {W : World} {v : Value} {d : DataW H} {ps : List MemPlace} (h : DataW.Trod enc Try.prog W 0 (fun _ => true) true 51 v d ps) (hval : Value.okWide Try.prog W .any 0 51 v) :
    ∃ a b : Int, v = .agg #[.int .i64 a, .int .i64 b] := by
  simp only [Value.okWide, Try.underlying51] at hval
  obtain ⟨cs, rfl, hsz, _⟩ := hval
  rw [Try.cells51] at hsz
  obtain ⟨l⟩ := cs
  match l, hsz with
  | [x, y], _ =>
    obtain ⟨fuel, hf⟩ := h
    have hcs : (Value.agg #[x, y]).cells.toList = [x, y] := rfl
    rw [hcs] at hf
    obtain ⟨zs, m, _, _, _, hl, hi⟩ := DataW.trod_array Try.underlying51 hf
    rw [Try.cells3] at hi
    match zs, hl with
    | [z0, z1], _ =>
      have t0 := hi 0 (by omega)
      have t1 := hi 1 (by omega)
      simp only [Nat.zero_mul, Nat.one_mul, List.drop_zero, List.drop_succ_cons, List.take_succ_cons, List.take_zero, List.getElem?_cons_zero, List.getElem?_cons_succ] at t0 t1
      obtain ⟨a, ha, _, _⟩ := DataW.trod_int Try.underlying3 t0
      obtain ⟨b, hb, _, _⟩ := DataW.trod_int Try.underlying3 t1
      have ha' : x = .int .i64 a := by simpa using ha
      have hb' : y = .int .i64 b := by simpa using hb
      exact ⟨a, b, by rw [ha', hb']⟩

set_option maxRecDepth 100000 in
theorem spansErrors_lifted (os : Os) (started : os.Started) (H : Type) (enc : TypeId × Value → H) :
    ReturnsInHanded {} Try.checked os 7 .any (Rows.spansErrorsSpec.pre6 enc Try.prog Try.f7 Rows.spansErrorsRow.domain false) (Rows.spansErrorsSpec.post enc Try.prog Try.f7 false true false false) := by
  refine returnsInHanded_of_change (C := Try.checked) Try.own started (by kernel_rfl) Try.func7
    (ChangeSpec.witness6 (enc := enc) (C := Try.checked) false ⟨#[], #[.slice none 0 0, .slice none 0 0, .agg #[.int .i64 0, .int .i64 0]], []⟩ 8 (by kernel_rfl) (by kernel_rfl) (by kernel_rfl) (by kernel_rfl)) ?_
  intro W base args ds gs before hval0 hW hcnd _
  have hval : ∀ (j : Nat) t v, Try.f7.params[j]? = some t → args[j]? = some v → Value.okWide Try.prog W .any base t v := hval0
  have hW' := hW
  obtain ⟨p, q, hA0, hV, rfl, hfz, hnd⟩ := hW
  have hA : DataW.TrodAll enc Try.prog W 0 (fun _ => true) true Try.f7.params.toList args.toList ds p := hA0
  have hA2 := hA
  rw [Try.params7] at hA2 hval
  obtain ⟨v0, v1, v2, d0, d1, d2, p0, p1, p2, rfl, rfl, rfl, h0, h1, h2⟩ := trodAll_three hA2
  obtain ⟨rfl, rfl⟩ := trodVars_none hV
  obtain ⟨A, ca, xa, rfl, hca, hma, hra⟩ := open_spans h0 (hval 0 22 v0 rfl rfl)
  obtain ⟨B, cb, xb, rfl, hcb, hmb, hrb⟩ := open_spans h1 (hval 1 22 v1 rfl rfl)
  obtain ⟨a, n, rfl⟩ := open_two h2 (hval 2 51 v2 rfl rfl)
  unfold maxLen at hma hmb
  refine (law5_any lives_any A B ca cb xa xb a n W hra hrb (by omega) (by omega) hca hcb).mono fun e W' ⟨he, hb⟩ => ?_
  subst he
  simp only [List.append_nil] at hW' hA
  exact ⟨_, rfl, law_post (tb := 4) Try.laidOut (by kernel_rfl) rfl (by kernel_rfl) Try.underlying4 rfl hW' hA hb⟩

theorem spansErrors_holds : Rows.SpansErrorsSaid :=
  OpenClaim.holds_of_wide 7 Try.f7 rfl rfl rfl rfl rfl rfl rfl ⟨rfl, rfl, rfl, rfl, rfl⟩ rfl rfl rfl rfl rfl (by kernel_rfl) Try.func7 (by kernel_rfl)
    (of_decide_eq_true (by kernel_rfl)) (by unfold Func.isWrapper; first | (rw [if_pos (by decide +kernel)]; kernel_rfl) | (rw [if_neg (by decide +kernel)]; exact ⟨rfl, rfl⟩))
    (fun os started H enc _ => spansErrors_lifted os started H enc)
end Go.Proofs.Ytbkfebnggomhdaa
