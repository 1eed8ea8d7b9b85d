/- The walk of the law FenwicksCheck. -/
import Derived.Test.YthdohijhioocgaaLives
namespace Go.Proofs.Ythdohijhioocgaa
open Go.RowKit

theorem below_drewN {B : Nat} {a w : World} (h : Below B a w) (n : Nat) : Below B a (w.drewN n) := ⟨h.os, h.tape, h.output, h.size, h.block⟩
theorem Tr.drewN {w : World} {b S : Nat} {l s : List Int} (h : Tr w b S l s) (n : Nat) : Tr (w.drewN n) b S l s := ⟨h.box, h.row, h.fen, h.vd⟩
theorem RdI.row {w : World} {g : Nat} {l : List Int} (h : w.heap[g]? = some (.cells (ints l) 2 (0, 0))) : RdI w w.heap.size (some ⟨g, 0, none⟩) l := fun k hk => by
  refine ⟨g, 0, rfl, lt_of_block h, ?_⟩
  rw [Nat.zero_add, cell_of_row w g k (ints l) 2 (0, 0) h]
  simp [ints, hk]

set_option maxHeartbeats 1000000 in
theorem law1_long (hL : LivesOk) (A : Option Addr) (c : Nat) (zs : List Int) (w : World) (hl : 100 < zs.length) (hl2 : zs.length ≤ 9223372036854775807) :
    Calls Try.prog 3 #[.slice A zs.length c] w fun e w' => e = .returned (.bool true) ∧ Below w.heap.size w w' := by
  have HL := Lib.hid hL; clear hL
  go_enter Try.func3, Try.ntmps3
  go_wp2_with fail
  refine (HL.out _).mono ?_
  rintro e w1 ⟨rfl, hb⟩
  go_wp2_with fail
  go_ret
  exact ⟨rfl, hb⟩

set_option maxHeartbeats 2000000 in
theorem law1_bad (hL : LivesOk) (A : Option Addr) (c : Nat) (zs : List Int) (w : World) (hr : RdI w w.heap.size A zs) (hl : zs.length ≤ 100) (h0 : chk zs ≠ 0) :
    Calls Try.prog 3 #[.slice A zs.length c] w fun e w' => e = .returned (.bool true) ∧ Below w.heap.size w w' := by
  have HL := Lib.hid hL; clear hL
  have h10 := Lib.hid (refCheck_any A c zs w hr (by omega))
  have h11 := Lib.hid (new_bad A c zs w hr (by omega) h0)
  have h12 := Lib.hid (check_any A c zs w hr (by omega))
  clear hr
  generalize chk zs = r at *
  have b1 : (r == 0) = false := by simpa using h0
  have b2 : (r != 0) = true := by simpa using h0
  clear h0
  go_enter Try.func3, Try.ntmps3
  go_wp2_with fail
  refine h10.out.mono ?_
  rintro e w' ⟨rfl, rfl⟩
  go_wp2_with fail
  refine h11.out.mono ?_
  rintro e w' ⟨rfl, rfl⟩
  go_wp2_with fail
  refine h12.out.mono ?_
  rintro e w' ⟨rfl, rfl⟩
  go_wp2_with fail
  refine (HL.out _).mono ?_
  rintro e w1 ⟨rfl, hb⟩
  go_wp2_with fail
  go_ret
  exact ⟨rfl, hb⟩

set_option maxHeartbeats 2000000 in
theorem law1_ok (hL : LivesOk) (A : Option Addr) (c : Nat) (zs : List Int) (w : World) (hr : RdI w w.heap.size A zs) (hl : zs.length ≤ 100) (h0 : chk zs = 0) :
    Calls Try.prog 3 #[.slice A zs.length c] w fun e w' => e = .returned (.bool true) ∧ Below w.heap.size w w' := by
  have HL := Lib.hid hL; clear hL
  have hv := chk_zero.1 h0
  have h10 := Lib.hid (refCheck_any A c zs w hr (by omega))
  have h11 := Lib.hid (new_ok A c zs w hr hv)
  have h12 := Lib.hid (fun W (h : RdI W W.heap.size A zs) => check_any A c zs W h (by omega))
  rw [h0] at h10 h12
  have HR := Lib.hid hr
  have HV := Lib.hid hv
  clear hr hv h0
  go_enter Try.func3, Try.ntmps3
  go_wp2_with fail
  refine h10.out.mono ?_
  rintro e w' ⟨rfl, rfl⟩
  go_wp2_with fail
  refine h11.out.mono ?_
  rintro e w1 ⟨b, S, s, rfl, hT, hb, hS, hB⟩
  have HT := Lib.hid hT
  have HB := Lib.hid hB
  have HR1 := Lib.hid (HR.out.next hB)
  have h13 := Lib.hid (len_tree hT)
  have h14 := Lib.hid (total_tree hT)
  have h15 := Lib.hid (refSum_any A c zs w1 HR1.out HV.out zs.length (Nat.le_refl _))
  have h17 := Lib.hid (list_tree hT)
  have k12 := Lib.hid (h12.out w1 HR1.out)
  clear hT hB hb hS h10 h11 h12
  go_wp2_with fail
  refine k12.out.mono ?_
  rintro e w' ⟨rfl, rfl⟩
  go_wp2_with fail
  refine h13.out.mono ?_
  rintro e w' ⟨rfl, rfl⟩
  go_wp2_with fail
  refine h14.out.mono ?_
  rintro e w' ⟨rfl, rfl⟩
  go_wp2_with fail
  refine h15.out.mono ?_
  rintro e w' ⟨rfl, rfl⟩
  go_wp2_with fail
  refine h17.out.mono ?_
  rintro e w2 ⟨g, rfl, hg, hrow, hB2⟩
  have HB2 := Lib.hid (HB.out.trans (hB2.mono HB.out.size))
  have h16 := Lib.hid (same_any (some ⟨g, 0, none⟩) A c zs w2 (RdI.row hrow) (HR1.out.next hB2) (by omega))
  clear hg hrow hB2
  go_wp2_with fail
  refine h16.out.mono ?_
  rintro e w' ⟨rfl, n, rfl⟩
  go_wp2_with fail
  refine (HL.out _).mono ?_
  rintro e w3 ⟨rfl, hb3⟩
  have HB3 := Lib.hid (HB2.out.trans ((show Below w2.heap.size w2 w3 from ⟨hb3.os, hb3.tape, hb3.output, hb3.size, hb3.block⟩).mono HB2.out.size))
  clear hb3
  go_wp2_with fail
  go_ret
  exact ⟨rfl, HB3.out⟩

theorem law1_any (hL : LivesOk) (A : Option Addr) (c : Nat) (zs : List Int) (w : World) (hr : RdI w w.heap.size A zs) (hl2 : zs.length ≤ 9223372036854775807) :
    Calls Try.prog 3 #[.slice A zs.length c] w fun e w' => e = .returned (.bool true) ∧ Below w.heap.size w w' := by
  rcases Nat.lt_or_ge 100 zs.length with h | h
  · exact law1_long hL A c zs w h hl2
  · by_cases h0 : chk zs = 0
    · exact law1_ok hL A c zs w hr h h0
    · exact law1_bad hL A c zs w hr h h0
end Go.Proofs.Ythdohijhioocgaa
