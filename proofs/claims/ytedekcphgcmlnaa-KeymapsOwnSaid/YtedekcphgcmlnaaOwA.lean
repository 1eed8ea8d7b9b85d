/- Copies, keys that were returned, a cleared map: what the law KeymapsOwn holds in memory. -/
import Derived.Test.YtedekcphgcmlnaaLwS
namespace Go.Proofs.Ytedekcphgcmlnaa
open Go.RowKit

theorem lm_copy {w0 w : World} {b M : Nat} {L : PL} (h : Lm w0 w b L M) :
    Calls Try.prog 20 #[.pointer (some ⟨b, 0, none⟩)] w fun e w' => ∃ b', e = .returned (.pointer (some ⟨b', 0, none⟩)) ∧ Lm w w' b' L M := by
  obtain ⟨s, S, h1, h2, _⟩ := h
  refine (copy_any h1 h2).mono ?_
  rintro e w' ⟨b', s', rfl, q1, q2, q3, q4⟩
  exact ⟨b', rfl, s', S, q1, h2, q2, q3, q4⟩
/-- an empty map -/
structure Em (w0 w : World) (b s : Nat) : Prop where
  mp : Mp w b s []
  b0 : w0.heap.size ≤ b
  s0 : w0.heap.size ≤ s
  u : Below w0.heap.size w0 w
theorem Em.lm {w0 w : World} {b s : Nat} (h : Em w0 w b s) : Lm w0 w b [] 0 := ⟨s, [], h.mp, good_nil 0, h.b0, h.s0, h.u⟩
theorem Em.next {w0 w w' : World} {b s : Nat} (h : Em w0 w b s) (hb : Below w.heap.size w w') : Em w0 w' b s := ⟨h.mp.next hb, h.b0, h.s0, h.u.trans (hb.mono h.u.size)⟩
theorem lm_clear {w0 w : World} {b M : Nat} {L : PL} (h : Lm w0 w b L M) :
    Calls Try.prog 22 #[.pointer (some ⟨b, 0, none⟩)] w fun e w' => e = .returned (.tuple #[]) ∧ (∃ s, Em w0 w' b s) ∧ Fr w w' b b := by
  obtain ⟨s, S, h1, h2, h3, h4, h5⟩ := h
  refine (clear_any h1).mono ?_
  rintro e w' ⟨rfl, q1, q2⟩
  exact ⟨rfl, ⟨s, q1, h3, h4, h5.trans (q2.below h3 h3 h5.size)⟩, q2⟩
theorem lm_far {w0 w1 w w' : World} {b b' M : Nat} {L : PL} (h : Lm w1 w b' L M) (hb : b < w1.heap.size) (hF : Fr w w' b b) (hu : Below w0.heap.size w0 w') (hs : w0.heap.size ≤ w1.heap.size) : Lm w0 w' b' L M := by
  obtain ⟨s, S, h1, h2, h3, h4, h5⟩ := h
  exact ⟨s, S, h1.keep (hF.block b' h1.lt (by omega) (by omega)) (fun hs => hF.block s hs (by omega) (by omega)), h2, by omega, by omega, hu⟩
theorem slr_clear {w w' w0 : World} {A : Option Addr} {c b M : Nat} {L L' : PL} (h : SlR w A c L) (hm : Lm w0 w b L' M) (hF : Fr w w' b b) : SlR w' A c L := by
  rcases L with _ | ⟨x, L⟩
  · exact ⟨RdR.nil, h.le, h.max, h.nil⟩
  · obtain ⟨b0, o, rfl, _, q1, _⟩ := h.rd 0 (by simp)
    refine h.fr hF (fun a ha => ?_)
    obtain rfl : (⟨b0, o, none⟩ : Addr) = a := by injection ha
    have hne : b0 ≠ b := by
      rintro rfl
      obtain ⟨s, S, h1, _⟩ := hm
      obtain ⟨A', c', ho⟩ := h1.any
      have hc := cell_of_row w b0 (o + 0 * 2) _ 54 (0, 0) ho.whole
      rw [q1] at hc
      rcases o with _ | _ | _ | o
      · cases hc
      · cases hc
      · cases hc
      · simp at hc
    exact ⟨hne, hne⟩
/-- the keys that were returned -/
structure KI (W wr : World) (A : Option Addr) (n : Nat) : Prop where
  u : Below W.heap.size W wr
  row : n ≠ 0 → ∃ g zs, A = some ⟨g, 0, none⟩ ∧ RU wr g zs ∧ zs.length = n ∧ W.heap.size ≤ g
theorem KI.of {L : PL} {W w' : World} {e : Ending} (h : Keyd L W e w') : ∃ A, e = .returned (.slice A L.length L.length) ∧ KI W w' A L.length := by
  obtain ⟨⟨rfl, rfl⟩ | ⟨g, rfl, hu, hg⟩, hb⟩ := h
  · exact ⟨none, rfl, hb, fun h => absurd rfl h⟩
  · exact ⟨_, rfl, hb, fun _ => ⟨g, _, rfl, hu, by simp, hg⟩⟩
theorem KI.at {W wr : World} {A : Option Addr} {n : Nat} (h : KI W wr A n) (i : Nat) (hi : i < n) :
    ∃ g x, A = some ⟨g, 0, none⟩ ∧ wr.cell? ⟨g, i, none⟩ = some (.int .u64 x) ∧ wr.frozen? ⟨g, i, none⟩ = false ∧ Hid (∀ y, KI W (wr.setCell ⟨g, i, none⟩ (.int .u64 y)) A n) := by
  obtain ⟨g, zs, rfl, hr, hl, hg⟩ := h.row (by omega)
  refine ⟨g, _, rfl, hr.cell (List.getElem?_eq_getElem (show i < zs.length by omega)), hr.frozen i, Lib.hid (fun y => ⟨h.u.setCell (by simpa using hg) _, fun _ => ⟨g, _, rfl, hr.set i y, by simpa using hl, hg⟩⟩)⟩
/-- steps on the copy -/
def CpI (W wr : World) (b : Nat) : Prop := ∃ L M, Lm W wr b L M
theorem CpI.u {W wr : World} {b : Nat} (h : CpI W wr b) : Below W.heap.size W wr := by
  obtain ⟨L, M, h⟩ := h
  exact h.u
theorem CpI.drop {W wr : World} {b : Nat} (h : CpI W wr b) (k : Int) :
    Calls Try.prog 12 #[.pointer (some ⟨b, 0, none⟩), .int .u64 k] wr fun e w' => ∃ f, e = .returned (.bool f) ∧ CpI W w' b := by
  obtain ⟨L, M, h⟩ := h
  exact (lm_drop h k).mono fun e w' ⟨q1, q2⟩ => ⟨_, q1, _, _, q2⟩
theorem CpI.put {W wr : World} {b : Nat} (h : CpI W wr b) (k v : Int) :
    Calls Try.prog 14 #[.pointer (some ⟨b, 0, none⟩), .int .u64 k, .int .i64 v] wr fun e w' => ∃ f, e = .returned (.int .i64 f) ∧ CpI W w' b := by
  obtain ⟨L, M, h⟩ := h
  exact (lm_put h k v).mono fun e w' ⟨q1, q2⟩ => ⟨_, q1, _, _, q2⟩
theorem CpI.next {W wr w' : World} {b : Nat} (h : CpI W wr b) (hb : Below wr.heap.size wr w') : CpI W w' b := by
  obtain ⟨L, M, h⟩ := h
  exact ⟨L, M, h.next hb⟩
end Go.Proofs.Ytedekcphgcmlnaa
