/- The law's P: both orders. -/
import Derived.Test.YtejgcpohdbiaoaaPrmW
namespace Go.Proofs.Ytejgcpohdbiaoaa
open Go.RowKit

/-- what P's Of hands back -/
def Both (N F : Nat) (w : World) (e : Ending) (w' : World) : Prop :=
  ∃ (l1 l2 : List Int) (A1 A2 : Option Addr) (c1 c2 : Nat), l1.Perm (numL N F) ∧ l2.Perm (numL N F) ∧ e = .returned (.tuple #[.slice A1 l1.length c1, .slice A2 l2.length c2]) ∧ SlI w' A1 c1 l1 ∧ SlI w' A2 c2 l2 ∧ Below w.heap.size w w'
def Ordd (N F : Nat) (w : World) (e : Ending) (w' : World) : Prop := ∃ l A' c', l.Perm (numL N F) ∧ e = .returned (.slice A' (l : List Int).length c') ∧ SlI w' A' c' l ∧ Below w.heap.size w w'
theorem keepP {w W W' : World} {g N F : Nat} {x2 x3 : Value} (h : W.cell? ⟨g, 0, none⟩ = some (.int .u8 N) ∧ W.cell? ⟨g, 1, none⟩ = some (.int .u8 F) ∧ W.cell? ⟨g, 2, none⟩ = some x2 ∧ W.cell? ⟨g, 3, none⟩ = some x3 ∧ Below w.heap.size w W ∧ g < W.heap.size) (hb : Below W.heap.size W W') :
    W'.cell? ⟨g, 0, none⟩ = some (.int .u8 N) ∧ W'.cell? ⟨g, 1, none⟩ = some (.int .u8 F) ∧ W'.cell? ⟨g, 2, none⟩ = some x2 ∧ W'.cell? ⟨g, 3, none⟩ = some x3 ∧ Below w.heap.size w W' ∧ g < W'.heap.size :=
  ⟨(hb.cell (p := ⟨g, 0, none⟩) h.2.2.2.2.2).trans h.1, (hb.cell (p := ⟨g, 1, none⟩) h.2.2.2.2.2).trans h.2.1, (hb.cell (p := ⟨g, 2, none⟩) h.2.2.2.2.2).trans h.2.2.1, (hb.cell (p := ⟨g, 3, none⟩) h.2.2.2.2.2).trans h.2.2.2.1, h.2.2.2.2.1.trans (hb.mono h.2.2.2.2.1.size), Nat.lt_of_lt_of_le h.2.2.2.2.2 hb.size⟩
set_option maxRecDepth 100000 in
set_option maxHeartbeats 4000000 in
theorem of_any {w : World} {A B : Option Addr} (c d : Nat) {us vs : List Nat} (N F : Nat) (hu : RdU w w.heap.size A us) (hv : RdU w w.heap.size B vs) (hN : N ≤ 255) (hF : F ≤ 255) (hlu : us.length ≤ 9223372036854775807) (hlv : vs.length ≤ 9223372036854775807) :
    Calls Try.prog 13 #[.agg #[.int .u8 N, .int .u8 F, .slice A us.length c, .slice B vs.length d]] w (Both N F w) := by
  have U1 : Hid (∀ W, Below w.heap.size w W → Calls Try.prog 25 #[.agg #[.int .u8 N, .int .u8 F, .slice A us.length c, .slice B vs.length d], .slice A us.length c] W (Ordd N F W)) := Lib.hid (fun W hW => order_any c N F _ _ (fun k hk => by
    obtain ⟨b, o, e, hb, r⟩ := (hu.below hW) k hk
    exact ⟨b, o, e, Nat.lt_of_lt_of_le hb hW.size, r⟩) hN hF hlu)
  have U2 : Hid (∀ W, Below w.heap.size w W → Calls Try.prog 25 #[.agg #[.int .u8 N, .int .u8 F, .slice A us.length c, .slice B vs.length d], .slice B vs.length d] W (Ordd N F W)) := Lib.hid (fun W hW => order_any d N F _ _ (fun k hk => by
    obtain ⟨b, o, e, hb, r⟩ := (hv.below hW) k hk
    exact ⟨b, o, e, Nat.lt_of_lt_of_le hb hW.size, r⟩) hN hF hlv)
  obtain ⟨g, hg⟩ : ∃ g : Nat, w.heap.size = g := ⟨_, rfl⟩
  obtain ⟨V, hV⟩ : ∃ V : World, w.alloc (.cells #[.int .u8 N, .int .u8 F, .slice A us.length c, .slice B vs.length d] 34) = V := ⟨_, rfl⟩
  have hbox : V.heap[g]? = some (.cells #[.int .u8 N, .int .u8 F, .slice A us.length c, .slice B vs.length d] 34 (0, 0)) := by rw [← hV]; exact new_at _ hg
  have hbv : Below w.heap.size w V := by rw [← hV]; exact below_new _ _
  have v0 : V.cell? ⟨g, 0, none⟩ = some (.int .u8 N) := cell_of_row _ _ 0 _ 34 (0, 0) hbox
  have v1 : V.cell? ⟨g, 1, none⟩ = some (.int .u8 F) := cell_of_row _ _ 1 _ 34 (0, 0) hbox
  have v2 : V.cell? ⟨g, 2, none⟩ = some (.slice A us.length c) := cell_of_row _ _ 2 _ 34 (0, 0) hbox
  have v3 : V.cell? ⟨g, 3, none⟩ = some (.slice B vs.length d) := cell_of_row _ _ 3 _ 34 (0, 0) hbox
  have hgl := heap_lt hbox
  have hS : Hid (V.drew.cell? ⟨g, 0, none⟩ = some (.int .u8 N) ∧ V.drew.cell? ⟨g, 1, none⟩ = some (.int .u8 F) ∧ V.drew.cell? ⟨g, 2, none⟩ = some (.slice A us.length c) ∧ V.drew.cell? ⟨g, 3, none⟩ = some (.slice B vs.length d) ∧ Below w.heap.size w V.drew ∧ g < V.drew.heap.size) := Lib.hid ⟨v0, v1, v2, v3, hbv.drew, hgl⟩
  clear hu hv
  go_enter Try.func13, Try.ntmps13
  go_upto_region 1 with fail
  clear hV hg hbox hbv v0 v1 v2 v3 hgl
  go_region_held3 (fun w' => w'.cell? ⟨g, 0, none⟩ = some (.int .u8 N) ∧ w'.cell? ⟨g, 1, none⟩ = some (.int .u8 F) ∧ w'.cell? ⟨g, 2, none⟩ = some (.slice A us.length c) ∧ w'.cell? ⟨g, 3, none⟩ = some (.slice B vs.length d) ∧ Below w.heap.size w w' ∧ g < w'.heap.size)
    (first
      | with_reducible exact hS.out
      | with_reducible exact keepP (by assumption) k2
      | with_reducible exact keepP (by assumption) k1
      | go_keep)
    (first
      | (go_at_call_of 25 (Value.slice A us.length c); (with_reducible refine (U1.out _ ?_).mono ?_); (exact (‹_ ∧ _ ∧ _ ∧ _ ∧ Below w.heap.size w _ ∧ _›).2.2.2.2.1); rintro e w1 ⟨l1, A1, c1, hp1, rfl, hs1, k1⟩)
      | (go_at_call_of 25 (Value.slice B vs.length d); (with_reducible refine (U2.out _ ?_).mono ?_); (exact (‹_ ∧ _ ∧ _ ∧ _ ∧ Below w.heap.size w _ ∧ _›).2.2.2.2.1); rintro e w2 ⟨l2, A2, c2, hp2, rfl, hs2, k2⟩))
  go_wp2_with fail
  go_ret2
  exact ⟨l1, l2, A1, A2, c1, c2, hp1, hp2, rfl, hs1.next k2, hs2, (‹_ ∧ _ ∧ _ ∧ _ ∧ Below w.heap.size w _ ∧ _›).2.2.2.2.1⟩
end Go.Proofs.Ytejgcpohdbiaoaa
