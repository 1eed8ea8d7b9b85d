/- What the laws with M's have in memory. -/
import Derived.Test.YtakgnpmfnechhaaMemW
import Derived.Test.YtakgnpmfnechhaaOfW
namespace Go.Proofs.Ytakgnpmfnechhaa
open Go.RowKit

theorem mv_set2 {W : World} {g n c : Nat} {o : Int} {A : Option Addr} {l : List Int} (hn : l.length = n) (hs : SlI W A c l) (hk : Kd W A) (hr : Room W g) : Mv ((W.setCell ⟨g, 0, none⟩ (.int .i64 o)).setCell ⟨g, 1, none⟩ (.slice A n c)) g o A c l := by
  subst hn
  exact ⟨heap_set2 hr, sl_set2k hs hk hr⟩
theorem mv_new_n {W : World} {n c : Nat} {o : Int} {A : Option Addr} {l : List Int} (hn : l.length = n) (hs : SlI W A c l) : Mv (W.alloc (.cells #[.int .i64 o, .slice A n c] 24)) W.heap.size o A c l := by
  subst hn
  exact Mv.new hs
/-- with a row of a kind, and two variables of M's -/
structure M5 (w W : World) (ms : List MR) (rs : List RR) (A7 : Option Addr) (g8 : Nat) (v8 : Value) (g9 : Nat) (v9 : Value) : Prop where
  mm : MM w W ms rs
  k7 : Kd W A7
  b8 : W.heap[g8]? = some (.cells #[.int .u8 0, v8] 54 (0, 0))
  b9 : W.heap[g9]? = some (.cells #[.int .u8 0, v9] 54 (0, 0))
section
variable {w W W' : World} {ms : List MR} {rs : List RR} {A7 : Option Addr} {g8 : Nat} {v8 : Value} {g9 : Nat} {v9 : Value}
theorem M5.next (h : M5 w W ms rs A7 g8 v8 g9 v9) (hb : Below W.heap.size W W') : M5 w W' ms rs A7 g8 v8 g9 v9 := ⟨h.mm.next hb, h.k7.next hb, keep_heap hb h.b8, keep_heap hb h.b9⟩
theorem M5.pushM (h : M5 w W ms rs A7 g8 v8 g9 v9) {o : Int} {A : Option Addr} {c n : Nat} {l : List Int} (hn : l.length = n) (hs : SlI W A c l) :
    M5 w (W.alloc (.cells #[.int .i64 o, .slice A n c] 24)) (⟨W.heap.size, o, A, c, l⟩ :: ms) rs A7 g8 v8 g9 v9 :=
  have h2 := h.next (below_new W (.cells #[.int .i64 o, .slice A n c] 24))
  ⟨h.mm.pushM hn hs, h2.k7, h2.b8, h2.b9⟩
theorem M5.pushR (h : M5 w W ms rs A7 g8 v8 g9 v9) {A : Option Addr} {c : Nat} {l : List Int} (hs : SlI W A c l) : M5 w W ms (⟨A, c, l⟩ :: rs) A7 g8 v8 g9 v9 := ⟨h.mm.pushR hs, h.k7, h.b8, h.b9⟩
theorem MM.add (h : MM w W ms rs) {g : Nat} {o : Int} {A : Option Addr} {c : Nat} {l : List Int} (hm : Mv W g o A c l) : MM w W (⟨g, o, A, c, l⟩ :: ms) rs :=
  ⟨fun m hm2 => by
    rcases List.mem_cons.1 hm2 with rfl | hm2
    · exact hm
    · exact h.ms m hm2, h.rs, h.u⟩
theorem M5.add (h : M5 w W ms rs A7 g8 v8 g9 v9) {g : Nat} {o : Int} {A : Option Addr} {c : Nat} {l : List Int} (hm : Mv W g o A c l) : M5 w W (⟨g, o, A, c, l⟩ :: ms) rs A7 g8 v8 g9 v9 := ⟨h.mm.add hm, h.k7, h.b8, h.b9⟩
theorem M5.at (h : M5 w W ms rs A7 g8 v8 g9 v9) (i : Nat) {g : Nat} {o : Int} {A : Option Addr} {c : Nat} {l : List Int} (hm : ms[i]? = some ⟨g, o, A, c, l⟩) : Mv W g o A c l := h.mm.at i hm
theorem M5.row (h : M5 w W ms rs A7 g8 v8 g9 v9) (i : Nat) {A : Option Addr} {c : Nat} {l : List Int} (hm : rs[i]? = some ⟨A, c, l⟩) : SlI W A c l := h.mm.row i hm
theorem M5.u (h : M5 w W ms rs A7 g8 v8 g9 v9) : Below w.heap.size w W := h.mm.u
theorem M5.box8 (h : M5 w W ms rs A7 g8 v8 g9 v9) : W.cell? ⟨g8, 0, none⟩ = some (.int .u8 0) ∧ W.cell? ⟨g8, 1, none⟩ = some v8 := ⟨cell_of_row _ _ 0 _ 54 (0, 0) h.b8, cell_of_row _ _ 1 _ 54 (0, 0) h.b8⟩
theorem M5.box9 (h : M5 w W ms rs A7 g8 v8 g9 v9) : W.cell? ⟨g9, 0, none⟩ = some (.int .u8 0) ∧ W.cell? ⟨g9, 1, none⟩ = some v9 := ⟨cell_of_row _ _ 0 _ 54 (0, 0) h.b9, cell_of_row _ _ 1 _ 54 (0, 0) h.b9⟩
end
/-- maps of two, where all is well -/
theorem cmp_ok {o : Int} {a b : List Int} (ha : Vm o a) (hb : Vm a.length b) {n : Nat} (hn : a.length = n) : cmpM o a n b = ((o, cmpL a b), 0) := by
  subst hn
  unfold cmpM
  rw [chkM_zero.2 ha, chkM_zero.2 hb, if_neg (by omega), if_neg (by omega), if_neg (by omega)]
theorem sam_ok {n : Nat} (h : n ≤ 4096) : samM n = (((n : Int), idL n), 0) := by unfold samM; rw [if_pos (by omega), Int.toNat_natCast]
end Go.Proofs.Ytakgnpmfnechhaa
