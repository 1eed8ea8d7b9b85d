/- Walks of room, Len and shift. -/
import Derived.Test.YtecoobeddjfegaaLay
namespace Go.Proofs.Ytecoobeddjfegaa
open Go.RowKit

theorem iroom_any {w : World} {b S N g e n : Nat} {A : Option Addr} {xs : List Value} (h : Buf 3 39 w b A S N g e n xs) :
    Calls Try.prog 27 #[.pointer (some ⟨b, 0, none⟩)] w fun r w' => r = .returned (.int .i64 ((e : Int) - g)) ∧ ∃ k, w' = w.drewN k := by
  have c1 := h.c1
  have c2 := h.c2
  have h1 := h.ge
  have h2 := h.eN
  have h3 := h.max
  clear h
  go_enter Try.func27, Try.ntmps27
  go_wp2_with fail
  go_quiet (fail)
  go_wp2
  go_ret
  exact ⟨ret_int (by omega), _, rfl⟩
theorem ilen_any {w : World} {b S N g e n : Nat} {A : Option Addr} {xs : List Value} (h : Buf 3 39 w b A S N g e n xs) :
    Calls Try.prog 11 #[.pointer (some ⟨b, 0, none⟩)] w fun r w' => r = .returned (.int .i64 n) ∧ ∃ k, w' = w.drewN k := by
  have c0 := h.c0
  have h1 := h.ge
  have h2 := h.eN
  have h3 := h.max
  have h4 := h.s1
  have h5 := h.s2
  have HR : Hid (∀ k, Calls Try.prog 27 #[.pointer (some ⟨b, 0, none⟩)] (w.drewN k) fun r w' => r = .returned (.int .i64 ((e : Int) - g)) ∧ ∃ m, w' = w.drewN m) := Lib.hid (fun k => (iroom_any (h.drewN k)).mono fun _ _ ⟨a, m, c⟩ => ⟨a, k + m, by rw [c, World.drewN_drewN]⟩)
  clear h
  go_enter Try.func11, Try.ntmps11
  go_wp2_with fail
  go_quiet ((go_at_call 27; exact HR.out _))
  go_wp2
  go_ret
  exact ⟨ret_int (by omega), _, rfl⟩
theorem ilen_nil {w : World} : Calls Try.prog 11 #[.pointer none] w fun r w' => r = .returned (.int .i64 0) ∧ w' = w := by
  go_enter Try.func11, Try.ntmps11
  go_wp2
  go_ret
  exact ⟨rfl, rfl⟩
end Go.Proofs.Ytecoobeddjfegaa
