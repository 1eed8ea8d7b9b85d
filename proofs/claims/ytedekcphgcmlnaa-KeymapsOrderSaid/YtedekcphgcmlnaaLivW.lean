/- The examples of the chapter. -/
import Derived.Test.YtedekcphgcmlnaaKeyW
namespace Go.Proofs.Ytedekcphgcmlnaa
open Go.RowKit

/-- a map of the call's own with the pairs L; nothing of w0 has changed -/
def Lm (w0 w : World) (b : Nat) (L : PL) (M : Nat) : Prop := ∃ s S, Mp w b s S ∧ Good S L M ∧ w0.heap.size ≤ b ∧ w0.heap.size ≤ s ∧ Below w0.heap.size w0 w
theorem Lm.u {w0 w : World} {b M : Nat} {L : PL} (h : Lm w0 w b L M) : Below w0.heap.size w0 w := by
  obtain ⟨s, S, _, _, _, _, h⟩ := h
  exact h
theorem Lm.next {w0 w w' : World} {b M : Nat} {L : PL} (h : Lm w0 w b L M) (hb : Below w.heap.size w w') : Lm w0 w' b L M := by
  obtain ⟨s, S, h1, h2, h3, h4, h5⟩ := h
  exact ⟨s, S, h1.next hb, h2, h3, h4, h5.trans (hb.mono h5.size)⟩
theorem Lm.ge {w0 w : World} {b M : Nat} {L : PL} (h : Lm w0 w b L M) : w0.heap.size ≤ b := by
  obtain ⟨s, S, _, _, h, _⟩ := h
  exact h
theorem lm_get {w0 w : World} {b M : Nat} {L : PL} (h : Lm w0 w b L M) (k : Int) :
    Calls Try.prog 15 #[.pointer (some ⟨b, 0, none⟩), .int .u64 k] w fun e w' => e = .returned (.tuple #[.int .i64 (valK L k), .bool (hasK L k)]) ∧ Lm w0 w' b L M := by
  have h0 := h
  obtain ⟨s, S, h1, h2, _⟩ := h
  refine (get_any h1 h2 k).mono ?_
  rintro e w' ⟨rfl, hb⟩
  exact ⟨rfl, h0.next hb⟩
theorem lm_put {w0 w : World} {b M : Nat} {L : PL} (h : Lm w0 w b L M) (k v : Int) :
    Calls Try.prog 14 #[.pointer (some ⟨b, 0, none⟩), .int .u64 k, .int .i64 v] w fun e w' => e = .returned (.int .i64 (putL L k v).2) ∧ Lm w0 w' b (putL L k v).1 (max M (putL L k v).1.length) := by
  obtain ⟨s, S, h1, h2, h3, h4, h5⟩ := h
  refine (put_any h1 h2 k v).mono ?_
  rintro e w' ⟨rfl, hF, s', S', q1, q2, q3⟩
  have := h5.size
  exact ⟨rfl, s', S', q1, q2, h3, by omega, h5.trans (hF.below h3 h4 h5.size)⟩
theorem lm_drop {w0 w : World} {b M : Nat} {L : PL} (h : Lm w0 w b L M) (k : Int) :
    Calls Try.prog 12 #[.pointer (some ⟨b, 0, none⟩), .int .u64 k] w fun e w' => e = .returned (.bool (dropL L k).2) ∧ Lm w0 w' b (dropL L k).1 M := by
  obtain ⟨s, S, h1, h2, h3, h4, h5⟩ := h
  refine (drop_any h1 h2 k).mono ?_
  rintro e w' ⟨rfl, hF, S', q1, q2⟩
  exact ⟨rfl, s, S', q1, q2, h3, h4, h5.trans (hF.below h3 h4 h5.size)⟩
theorem lm_len {w0 w : World} {b M : Nat} {L : PL} (h : Lm w0 w b L M) :
    Calls Try.prog 24 #[.pointer (some ⟨b, 0, none⟩)] w fun e w' => e = .returned (.int .i64 L.length) ∧ w' = w := by
  obtain ⟨s, S, h1, h2, _⟩ := h
  have := len_any h1
  rwa [h2.len] at this
theorem lm_keys {N : Nat} (hS : SortU N) {w0 w : World} {b M : Nat} {L : PL} (h : Lm w0 w b L M) (hN : L.length ≤ N) :
    Calls Try.prog 21 #[.pointer (some ⟨b, 0, none⟩)] w fun e w' => Keyd L w e w' ∧ Lm w0 w' b L M := by
  have h0 := h
  obtain ⟨s, S, h1, h2, _⟩ := h
  refine (keys_any hS h1 h2 hN).mono ?_
  intro e w' hk
  exact ⟨hk, h0.next hk.2⟩
theorem lm_new {w0 w : World} (hu : Below w0.heap.size w0 w) : Calls Try.prog 10 #[] w fun e w' => e = .returned (.pointer (some ⟨w.heap.size, 0, none⟩)) ∧ Mp w' w.heap.size w.heap.size [] ∧ Lm w0 w' w.heap.size [] 0 := by
  refine (new_any w).mono ?_
  rintro e w' ⟨rfl, h1, h2⟩
  exact ⟨rfl, h1, _, [], h1, good_nil 0, hu.size, hu.size, hu.trans (h2.mono hu.size)⟩
/-- true is returned, and nothing that was there has changed -/
def Yes (w : World) (e : Ending) (w' : World) : Prop := e = .returned (.bool true) ∧ Below w.heap.size w w'
set_option maxRecDepth 100000 in
set_option maxHeartbeats 8000000 in
theorem lives_any {N : Nat} (hS : SortU N) (hN : 2 ≤ N) (w : World) : Calls Try.prog 9 #[] w (Yes w) := by
  have H0 := Lib.hid (lm_new (Below.refl w.heap.size w))
  have HS := Lib.hid hS
  clear hS
  go_enter Try.func9, Try.ntmps9
  go_wp2_with fail
  refine H0.out.mono ?_
  rintro e w1 ⟨rfl, hm, hl⟩
  obtain ⟨b, hb⟩ : ∃ b : Nat, w.heap.size = b := ⟨_, rfl⟩
  rw [hb] at hm hl ⊢
  have HBB := Lib.hid hb
  clear hb
  have hg0 := good_nil 0
  have C0 : Hid (Calls Try.prog 15 #[.pointer (some ⟨b, 0, none⟩), .int .u64 1] w1 fun e w' => e = .returned (.tuple #[.int .i64 0, .bool false]) ∧ Below w1.heap.size w1 w') := Lib.hid (get_any hm hg0 1)
  have HM := Lib.hid hm
  have HL := Lib.hid hl
  clear hm hl H0 hg0
  go_wp2_with fail
  refine C0.out.mono ?_
  rintro e W0 ⟨rfl, hb0⟩
  have h0 := Lib.hid (HL.out.next hb0)
  have CL : Hid (Calls Try.prog 24 #[.pointer (some ⟨b, 0, none⟩)] W0 fun e w' => e = .returned (.int .i64 0) ∧ w' = W0) := Lib.hid (lm_len h0.out)
  have CS : Hid (Calls Try.prog 23 #[.pointer (some ⟨b, 0, none⟩)] W0 fun e w' => e = .returned (.int .i64 0) ∧ w' = W0) := Lib.hid (slots_any (HM.out.next hb0))
  clear hb0 HM HL C0
  go_wp2_with fail
  refine CL.out.mono ?_
  rintro e w2 ⟨rfl, rfl⟩
  rename World => W0
  go_wp2_with fail
  refine CS.out.mono ?_
  rintro e w2 ⟨rfl, rfl⟩
  rename World => W0
  clear CL CS
  have C1 : Hid (Calls Try.prog 14 #[.pointer (some ⟨b, 0, none⟩), .int .u64 5, .int .i64 50] W0 fun e w' => e = .returned (.int .i64 0) ∧ Lm w w' b [(5, 50)] 1) := Lib.hid (lm_put h0.out 5 50)
  go_wp2_with fail
  refine C1.out.mono ?_
  rintro e W1 ⟨rfl, h1x⟩
  have h1 := Lib.hid h1x
  clear h1x C1 h0
  have C2 : Hid (Calls Try.prog 14 #[.pointer (some ⟨b, 0, none⟩), .int .u64 9, .int .i64 90] W1 fun e w' => e = .returned (.int .i64 0) ∧ Lm w w' b [(5, 50), (9, 90)] 2) := Lib.hid (lm_put h1.out 9 90)
  go_wp2_with fail
  refine C2.out.mono ?_
  rintro e W2 ⟨rfl, h2x⟩
  have h2 := Lib.hid h2x
  clear h2x C2 h1
  have C3 : Hid (Calls Try.prog 14 #[.pointer (some ⟨b, 0, none⟩), .int .u64 5, .int .i64 51] W2 fun e w' => e = .returned (.int .i64 0) ∧ Lm w w' b [(5, 51), (9, 90)] 2) := Lib.hid (lm_put h2.out 5 51)
  go_wp2_with fail
  refine C3.out.mono ?_
  rintro e W3 ⟨rfl, h3x⟩
  have h3 := Lib.hid h3x
  clear h3x C3 h2
  have C4 : Hid (Calls Try.prog 15 #[.pointer (some ⟨b, 0, none⟩), .int .u64 5] W3 fun e w' => e = .returned (.tuple #[.int .i64 51, .bool true]) ∧ Lm w w' b [(5, 51), (9, 90)] 2) := Lib.hid (lm_get h3.out 5)
  go_wp2_with fail
  refine C4.out.mono ?_
  rintro e W4 ⟨rfl, h4x⟩
  have h4 := Lib.hid h4x
  clear h4x C4 h3
  have C5 := Lib.hid (lm_keys HS.out h4.out hN)
  go_wp2_with fail
  refine C5.out.mono ?_
  rintro e W5 ⟨⟨⟨hc, _⟩ | ⟨g, rfl, hu, _⟩, _⟩, h5x⟩
  · cases hc
  have h5 := Lib.hid h5x
  have k0 : W5.cell? ⟨g, 0, none⟩ = some (.int .u64 5) := hu.cell rfl
  have k1 : W5.cell? ⟨g, 1, none⟩ = some (.int .u64 9) := hu.cell rfl
  have CL : Hid (Calls Try.prog 24 #[.pointer (some ⟨b, 0, none⟩)] W5 fun e w' => e = .returned (.int .i64 2) ∧ w' = W5) := Lib.hid (lm_len h5.out)
  clear h5x C5 h4 hu
  go_wp2_with fail
  refine CL.out.mono ?_
  rintro e w2 ⟨rfl, rfl⟩
  rename World => W5
  clear CL
  have C6 : Hid (Calls Try.prog 12 #[.pointer (some ⟨b, 0, none⟩), .int .u64 5] W5 fun e w' => e = .returned (.bool true) ∧ Lm w w' b [(9, 90)] 2) := Lib.hid (lm_drop h5.out 5)
  go_wp2_with fail
  refine C6.out.mono ?_
  rintro e W6 ⟨rfl, h6x⟩
  have h6 := Lib.hid h6x
  clear h6x C6 h5
  have C7 : Hid (Calls Try.prog 12 #[.pointer (some ⟨b, 0, none⟩), .int .u64 5] W6 fun e w' => e = .returned (.bool false) ∧ Lm w w' b [(9, 90)] 2) := Lib.hid (lm_drop h6.out 5)
  go_wp2_with fail
  refine C7.out.mono ?_
  rintro e W7 ⟨rfl, h7x⟩
  have h7 := Lib.hid h7x
  clear h7x C7 h6
  have CL : Hid (Calls Try.prog 24 #[.pointer (some ⟨b, 0, none⟩)] W7 fun e w' => e = .returned (.int .i64 1) ∧ w' = W7) := Lib.hid (lm_len h7.out)
  go_wp2_with fail
  refine CL.out.mono ?_
  rintro e w2 ⟨rfl, rfl⟩
  rename World => W7
  clear CL
  have C8 : Hid (Calls Try.prog 15 #[.pointer (some ⟨b, 0, none⟩), .int .u64 5] W7 fun e w' => e = .returned (.tuple #[.int .i64 0, .bool false]) ∧ Lm w w' b [(9, 90)] 2) := Lib.hid (lm_get h7.out 5)
  go_wp2_with fail
  refine C8.out.mono ?_
  rintro e W8 ⟨rfl, h8x⟩
  have h8 := Lib.hid h8x
  clear h8x C8 h7
  have C9 : Hid (Calls Try.prog 14 #[.pointer (some ⟨b, 0, none⟩), .int .u64 0, .int .i64 1] W8 fun e w' => e = .returned (.int .i64 9) ∧ Lm w w' b [(9, 90)] 2) := Lib.hid (lm_put h8.out 0 1)
  go_wp2_with fail
  refine C9.out.mono ?_
  rintro e W9 ⟨rfl, h9x⟩
  have h9 := Lib.hid h9x
  clear h9x C9 h8
  go_wp2_with fail
  go_ret
  exact ⟨rfl, h9.out.u⟩
end Go.Proofs.Ytedekcphgcmlnaa
