/- Walks of room, Len and shift. -/
import Derived.Test.YtecoobeddjfegaaLay
namespace Go.Proofs.Ytecoobeddjfegaa
open Go.RowKit

theorem sroom_any {w : World} {b S N g e n : Nat} {A : Option Addr} {xs : List Value} (h : Buf 9 53 w b A S N g e n xs) :
    Calls Try.prog 39 #[.pointer (some ⟨b, 0, none⟩)] w fun r w' => r = .returned (.int .i64 ((e : Int) - g)) ∧ ∃ k, w' = w.drewN k := by
  have c1 := h.c1
  have c2 := h.c2
  have h1 := h.ge
  have h2 := h.eN
  have h3 := h.max
  clear h
  go_enter Try.func39, Try.ntmps39
  go_wp2_with fail
  go_quiet (fail)
  go_wp2
  go_ret
  exact ⟨ret_int (by omega), _, rfl⟩
theorem slen_any {w : World} {b S N g e n : Nat} {A : Option Addr} {xs : List Value} (h : Buf 9 53 w b A S N g e n xs) :
    Calls Try.prog 30 #[.pointer (some ⟨b, 0, none⟩)] w fun r w' => r = .returned (.int .i64 n) ∧ ∃ k, w' = w.drewN k := by
  have c0 := h.c0
  have h1 := h.ge
  have h2 := h.eN
  have h3 := h.max
  have h4 := h.s1
  have h5 := h.s2
  have HR : Hid (∀ k, Calls Try.prog 39 #[.pointer (some ⟨b, 0, none⟩)] (w.drewN k) fun r w' => r = .returned (.int .i64 ((e : Int) - g)) ∧ ∃ m, w' = w.drewN m) := Lib.hid (fun k => (sroom_any (h.drewN k)).mono fun _ _ ⟨a, m, c⟩ => ⟨a, k + m, by rw [c, World.drewN_drewN]⟩)
  clear h
  go_enter Try.func30, Try.ntmps30
  go_wp2_with fail
  go_quiet ((go_at_call 39; exact HR.out _))
  go_wp2
  go_ret
  exact ⟨ret_int (by omega), _, rfl⟩
theorem slen_nil {w : World} : Calls Try.prog 30 #[.pointer none] w fun r w' => r = .returned (.int .i64 0) ∧ w' = w := by
  go_enter Try.func30, Try.ntmps30
  go_wp2
  go_ret
  exact ⟨rfl, rfl⟩
end Go.Proofs.Ytecoobeddjfegaa
