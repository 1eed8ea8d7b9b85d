/- The walk of Of of S, and the first two statements of the law SpansSets. -/
import Derived.Deep.DeepCutAuto
import Derived.Test.YtbkfebnggomhdaaMarksW
import Derived.Test.YtbkfebnggomhdaaLvAux
import Derived.Test.YtbkfebnggomhdaaMath5
namespace Go.Proofs.Ytbkfebnggomhdaa
open Go.RowKit
set_option maxHeartbeats 1000000 in
theorem sOf_any (A : Option Addr) (c : Nat) (ms : List Bool) (w : World) (hr : RdB w w.heap.size A ms) (hc : ms.length ≤ c) :
    Calls Try.prog 18 #[.agg #[.slice A ms.length c]] w fun e w' => ∃ B d L, e = .returned (.slice B L.length d) ∧ L.length ≤ d ∧ MkSet (ms.take 300) L ∧ Rd w' w'.heap.size B L ∧ Below w.heap.size w w' := by
  have hb0 : Below w.heap.size w (w.alloc (.cells #[.slice A ms.length c] 41)) := (Below.refl _ _).alloc (Nat.le_refl _) _
  have hr0 := hr.next hb0
  have hml : (ms.take 300).length ≤ 300 := by rw [List.length_take]; omega
  have M1 : Hid (∀ W, Calls Try.prog 19 #[.agg #[.slice A ms.length c]] W fun e w' => e = .returned (.slice A (ms.take 300).length c) ∧ Below W.heap.size W w') := fun W => marks_any A c ms W hc
  have M2 : Hid (∀ W, RdB W W.heap.size A (ms.take 300) → Calls Try.prog 23 #[.slice A (ms.take 300).length c] W fun e w' => ∃ v L, e = .returned v ∧ MkSet (ms.take 300) L ∧ Own w' W.heap.size 51 v L ∧ Below W.heap.size W w') := fun W h => refSpans_any A c (ms.take 300) W h (by omega)
  generalize (ms.take 300).length = n3 at M1 M2
  go_enter Try.func18, Try.ntmps18
  go_wp2_with fail
  refine (M1.out _).mono ?_
  rintro e w1 ⟨rfl, k1⟩
  have hb1 := hb0.trans (k1.mono hb0.size)
  have hr1 := (hr0.next k1).take 300
  go_wp2_with fail
  refine (M2.out _ hr1).mono ?_
  rintro e w2 ⟨v, L, rfl, hm, ho, k2⟩
  have hb2 := hb1.trans (k2.mono hb1.size)
  obtain ⟨B, d, rfl, hd, hrd⟩ := ho.rd
  have hll := hm.len
  have HM := Lib.hid hm
  clear hm ho
  go_wp2_with fail
  refine (of_any B d L w2 hrd (by omega)).mono ?_
  rintro e w3 ⟨v, rfl, ho, k3⟩
  obtain ⟨B2, d2, rfl, hd2, hrd2⟩ := ho.rd
  clear ho
  go_wp2_with fail
  go_ret
  exact ⟨B2, d2, L, rfl, hd2, HM.out, hrd2, hb2.trans (k3.mono hb2.size)⟩

end Go.Proofs.Ytbkfebnggomhdaa
