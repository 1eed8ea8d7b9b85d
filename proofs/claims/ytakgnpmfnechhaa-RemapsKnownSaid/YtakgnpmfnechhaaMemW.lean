/- What a law has in memory: maps in variables, rows. -/
import Derived.Test.YtakgnpmfnechhaaLivW
import Derived.Test.YtakgnpmfnechhaaRefA
import Derived.Test.YtakgnpmfnechhaaCarW
namespace Go.Proofs.Ytakgnpmfnechhaa
open Go.RowKit

structure MR where
  g : Nat
  o : Int
  A : Option Addr
  c : Nat
  l : List Int
structure RR where
  A : Option Addr
  c : Nat
  l : List Int
structure MM (w W : World) (ms : List MR) (rs : List RR) : Prop where
  ms : ∀ m ∈ ms, Mv W m.g m.o m.A m.c m.l
  rs : ∀ r ∈ rs, SlI W r.A r.c r.l
  u : Below w.heap.size w W
theorem MM.next {w W W' : World} {ms : List MR} {rs : List RR} (h : MM w W ms rs) (hb : Below W.heap.size W W') : MM w W' ms rs :=
  ⟨fun m hm => (h.ms m hm).next hb, fun r hr => (h.rs r hr).next hb, h.u.trans (hb.mono h.u.size)⟩
theorem MM.at {w W : World} {ms : List MR} {rs : List RR} (h : MM w W ms rs) (i : Nat) {g : Nat} {o : Int} {A : Option Addr} {c : Nat} {l : List Int} (hm : ms[i]? = some ⟨g, o, A, c, l⟩) : Mv W g o A c l := h.ms _ (List.mem_of_getElem? hm)
theorem MM.row {w W : World} {ms : List MR} {rs : List RR} (h : MM w W ms rs) (i : Nat) {A : Option Addr} {c : Nat} {l : List Int} (hm : rs[i]? = some ⟨A, c, l⟩) : SlI W A c l := h.rs _ (List.mem_of_getElem? hm)
theorem MM.pushM {w W : World} {ms : List MR} {rs : List RR} (h : MM w W ms rs) {o : Int} {A : Option Addr} {c n : Nat} {l : List Int} (hn : l.length = n) (hs : SlI W A c l) :
    MM w (W.alloc (.cells #[.int .i64 o, .slice A n c] 24)) (⟨W.heap.size, o, A, c, l⟩ :: ms) rs := by
  subst hn
  have hb := below_new W (.cells #[.int .i64 o, .slice A l.length c] 24)
  have h2 := h.next hb
  refine ⟨fun m hm => ?_, h2.rs, h2.u⟩
  rcases List.mem_cons.1 hm with rfl | hm
  · exact Mv.new hs
  · exact h2.ms m hm
theorem MM.pushR {w W : World} {ms : List MR} {rs : List RR} (h : MM w W ms rs) {A : Option Addr} {c : Nat} {l : List Int} (hs : SlI W A c l) : MM w W ms (⟨A, c, l⟩ :: rs) :=
  ⟨h.ms, fun r hr => by
    rcases List.mem_cons.1 hr with rfl | hr
    · exact hs
    · exact h.rs r hr, h.u⟩
theorem MM.start (w : World) : MM w w [] [] := ⟨fun m hm => (by cases hm), fun m hm => (by cases hm), Below.refl _ _⟩
theorem Mv.cells_n {W : World} {g : Nat} {o : Int} {A : Option Addr} {c n : Nat} {l : List Int} (h : Mv W g o A c l) (hn : l.length = n) : W.cell? ⟨g, 0, none⟩ = some (.int .i64 o) ∧ W.cell? ⟨g, 1, none⟩ = some (.slice A n c) := by
  subst hn; exact h.cells
/-- a map of nothing is what it is asked to be -/
theorem same_nil {W : World} {A : Option Addr} (o f : Int) (h : SlI W A 0 []) : Calls Try.prog 18 #[.agg #[.int .i64 o, .slice A 0 0], .int .i64 f, .int .i64 o, .slice none 0 0, .int .i64 f] W (YesB W) :=
  same_any (zs := []) o f 0 h.rd RdI.nil (by decide)
theorem list_nil {W : World} {A : Option Addr} (f : Int) (h : SlI W A 0 []) : Calls Try.prog 19 #[.slice A 0 0, .int .i64 f, .slice none 0 0, .int .i64 f] W (YesB W) :=
  (list_any (zs := []) 0 h.rd RdI.nil (by decide)).mono fun _ _ h => yesD_b h (Below.refl _ _)
/-- lists that are one list -/
theorem list_b {W : World} {A B : Option Addr} (c : Nat) {zs : List Int} (f : Int) (ha : RdI W W.heap.size A zs) (hb : RdI W W.heap.size B zs) (hl : zs.length ≤ 9223372036854775807) :
    Calls Try.prog 19 #[.slice A zs.length zs.length, .int .i64 f, .slice B zs.length c, .int .i64 f] W (YesB W) :=
  (list_any c ha hb hl).mono fun _ _ h => yesD_b h (Below.refl _ _)
/-- numbers, with the world drawn from -/
theorem numD_b {n : Int} {w : World} {e : Ending} {w' : World} (h : NumD n w e w') : NumB n w e w' := by
  obtain ⟨he, m, rfl⟩ := h
  exact ⟨he, below_drewN w m⟩
end Go.Proofs.Ytakgnpmfnechhaa
