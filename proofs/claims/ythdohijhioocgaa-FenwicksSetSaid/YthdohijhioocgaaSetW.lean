/- The walks of Set and List. -/
import Derived.Test.YthdohijhioocgaaNewW
namespace Go.Proofs.Ythdohijhioocgaa
open Go.RowKit

theorem Tr.below {w w' : World} {b S : Nat} {l s : List Int} (h : Tr w b S l s) (hb : Below w.heap.size w w') : Tr w' b S l s :=
  { box := (hb.block b (lt_of_block h.box)).trans h.box
    row := (hb.block S (lt_of_block h.row)).trans h.row
    fen := h.fen
    vd := h.vd }
theorem NoTree.below {w w' : World} {p : Option Addr} (h : NoTree w p) (hb : Below w.heap.size w w') : NoTree w' p := by
  rcases h with h | ⟨b, e, h⟩
  · exact .inl h
  · exact .inr ⟨b, e, (hb.block b (lt_of_block h)).trans h⟩
theorem set_none {w : World} {p : Option Addr} (i x : Int) (h : NoTree w p) : Calls Try.prog 23 #[.pointer p, .int .i64 i, .int .i64 x] w fun e w' => e = .returned (.int .i64 2) ∧ ∃ n, w' = w.drewN n := by
  have hi := at_none i h
  clear h
  go_enter Try.func23, Try.ntmps23
  go_wp2_with (go_at_call 19; refine hi.mono ?_; rintro e w' ⟨rfl, n, rfl⟩)
  go_ret
  exact ⟨rfl, n, rfl⟩
theorem set_out {w : World} {b S : Nat} {l s : List Int} (h : Tr w b S l s) (i x : Int) (ho : i < 0 ∨ (l.length : Int) ≤ i) :
    Calls Try.prog 23 #[.pointer (some ⟨b, 0, none⟩), .int .i64 i, .int .i64 x] w fun e w' => e = .returned (.int .i64 4) ∧ ∃ n, w' = w.drewN n := by
  have hi := at_out h i ho
  clear h ho
  go_enter Try.func23, Try.ntmps23
  go_wp2_with (go_at_call 19; refine hi.mono ?_; rintro e w' ⟨rfl, n, rfl⟩)
  go_ret
  exact ⟨rfl, n, rfl⟩
theorem set_height {w : World} {b S : Nat} {l s : List Int} (h : Tr w b S l s) (i : Nat) (hin : i < l.length) (x : Int) (hx : x < 0 ∨ 2305843009213693952 < x) :
    Calls Try.prog 23 #[.pointer (some ⟨b, 0, none⟩), .int .i64 i, .int .i64 x] w fun e w' => e = .returned (.int .i64 12) ∧ ∃ n, w' = w.drewN n := by
  have hi := at_tree h i hin
  have hh := fun W => isHeight_any x W
  rw [show decide (0 ≤ x ∧ x ≤ 2305843009213693952) = false from by simp; omega] at hh
  have HH := Lib.hid hh
  generalize l[i] = v at *
  clear h hx hh
  go_enter Try.func23, Try.ntmps23
  go_wp2_with (first | (go_at_call 19; refine hi.mono ?_; rintro e w' ⟨rfl, n, rfl⟩) | (go_at_call 25; refine (HH.out _).mono ?_; rintro e w' ⟨rfl, rfl⟩))
  go_ret
  exact ⟨rfl, n, rfl⟩
theorem set_over {w : World} {b S : Nat} {l s : List Int} (h : Tr w b S l s) (i : Nat) (hin : i < l.length) (x : Int) (h0 : 0 ≤ x) (h1 : x ≤ 2305843009213693952) (ho : 4611686018427387904 < pre l l.length - l[i] + x) :
    Calls Try.prog 23 #[.pointer (some ⟨b, 0, none⟩), .int .i64 i, .int .i64 x] w fun e w' => e = .returned (.int .i64 13) ∧ ∃ n, w' = w.drewN n := by
  have hi := at_tree h i hin
  have hh := fun W => isHeight_any x W
  rw [show decide (0 ≤ x ∧ x ≤ 2305843009213693952) = true from by simp; omega] at hh
  have HH := Lib.hid hh
  have HT : Hid (∀ n, Calls Try.prog 14 #[.pointer (some ⟨b, 0, none⟩)] (w.drewN n) fun e w' => e = .returned (.int .i64 (pre l l.length)) ∧ w.drewN n = w') := Lib.hid (fun n => total_tree ⟨h.box, h.row, h.fen, h.vd⟩)
  have b0 := h.vd.lo l.length
  have b1 := h.vd.hi l.length
  have b2 := h.vd.each i hin
  have b3 := h.vd.lo i
  have b4 := h.vd.mono (show i + 1 ≤ l.length from hin)
  rw [pre_succ hin] at b4
  have b5 : 0 ≤ pre l l.length - l[i] := by omega
  clear b3 b4
  generalize l[i] = v at *
  generalize pre l l.length = t at *
  clear h hh
  go_enter Try.func23, Try.ntmps23
  go_wp2_with (first | (go_at_call 19; refine hi.mono ?_; rintro e w' ⟨rfl, n, rfl⟩) | (go_at_call 25; refine (HH.out _).mono ?_; rintro e w' ⟨rfl, rfl⟩) | (go_at_call 14; refine (HT.out _).mono ?_; rintro e w' ⟨rfl, rfl⟩))
  go_ret
  exact ⟨rfl, n, rfl⟩
theorem set_vd {l : List Int} (h : Vd l) (i : Nat) (hin : i < l.length) (x : Int) (h0 : 0 ≤ x) (h1 : x ≤ 2305843009213693952) (ho : pre l l.length - l[i] + x ≤ 4611686018427387904) : Vd (l.set i x) :=
  ⟨by simpa using h.len, fun k hk => by
    have hk' : k < l.length := by simpa using hk
    rw [List.getElem_set]
    by_cases e : i = k
    · rw [if_pos e]; exact ⟨h0, h1⟩
    · rw [if_neg e]; exact h.each k hk',
   by
    have := pre_set hin (x - l[i]) l.length
    rw [show l[i] + (x - l[i]) = x by omega, if_pos hin] at this
    rw [List.length_set, this]
    omega⟩
def Changed (w : World) (b S : Nat) (l : List Int) (e : Ending) (w' : World) : Prop := e = .returned (.int .i64 0) ∧ ∃ s', Tr w' b S l s' ∧ w.grownBy w' (some S)
theorem set_ok {w : World} {b S : Nat} {l s : List Int} (h : Tr w b S l s) (i : Nat) (hin : i < l.length) (x : Int) (h0 : 0 ≤ x) (h1 : x ≤ 2305843009213693952) (ho : pre l l.length - l[i] + x ≤ 4611686018427387904) :
    Calls Try.prog 23 #[.pointer (some ⟨b, 0, none⟩), .int .i64 i, .int .i64 x] w (Changed w b S (l.set i x)) := by
  have hi := at_tree h i hin
  have hh := fun W => isHeight_any x W
  rw [show decide (0 ≤ x ∧ x ≤ 2305843009213693952) = true from by simp; omega] at hh
  have HH := Lib.hid hh
  have HT : Hid (∀ n, Calls Try.prog 14 #[.pointer (some ⟨b, 0, none⟩)] (w.drewN n) fun e w' => e = .returned (.int .i64 (pre l l.length)) ∧ w.drewN n = w') := Lib.hid (fun n => total_tree ⟨h.box, h.row, h.fen, h.vd⟩)
  have hv := set_vd h.vd i hin x h0 h1 ho
  have HA : Hid (∀ n, Calls Try.prog 24 #[.pointer (some ⟨b, 0, none⟩), .int .i64 i, .int .i64 (x - l[i])] (w.drewN n) (Added (w.drewN n) b S (l.set i x))) := Lib.hid (fun n => by
    have := add_tree (w := w.drewN n) ⟨h.box, h.row, h.fen, h.vd⟩ i hin (x - l[i]) (by rw [show l[i] + (x - l[i]) = x by omega]; exact hv)
    rw [show l[i] + (x - l[i]) = x by omega] at this
    exact this)
  have b0 := h.vd.lo l.length
  have b1 := h.vd.hi l.length
  have b2 := h.vd.each i hin
  have b4 := h.vd.mono (show i + 1 ≤ l.length from hin)
  have b3 := h.vd.lo i
  rw [pre_succ hin] at b4
  have b5 : 0 ≤ pre l l.length - l[i] := by omega
  clear b3 b4
  generalize l[i] = v at *
  generalize pre l l.length = t at *
  clear h hh hv
  go_enter Try.func23, Try.ntmps23
  go_wp2_with (first | (go_at_call 19; refine hi.mono ?_; rintro e w' ⟨rfl, n, rfl⟩) | (go_at_call 25; refine (HH.out _).mono ?_; rintro e w' ⟨rfl, rfl⟩) | (go_at_call 14; refine (HT.out _).mono ?_; rintro e w' ⟨rfl, rfl⟩) | (go_at_call 24; refine (HA.out _).mono ?_; rintro e w' ⟨rfl, s', hs', hg⟩))
  go_ret
  exact ⟨rfl, s', hs', hg.os, hg.tape, hg.output, hg.size, hg.block⟩

theorem list_none {w : World} {p : Option Addr} (h : NoTree w p) : Calls Try.prog 17 #[.pointer p] w fun e w' => (∃ A, e = .returned (.slice A 0 0)) ∧ Below w.heap.size w w' := by
  have hl := len_none h
  have hl2 := Lib.hid (fun o => len_none (h.below ((Below.refl _ w).alloc (Nat.le_refl _) o)))
  have hmk := make_ints 0 0 rfl (by omega)
  clear h
  go_enter Try.func17, Try.ntmps17
  go_wp2_with fail
  refine hl.mono ?_
  rintro e w' ⟨rfl, rfl⟩
  go_wp2_with fail
  refine (hl2.out _).mono ?_
  rintro e w' ⟨rfl, rfl⟩
  go_wp2_with fail
  go_loop [10] (fun k => k = .int .i64 0) (fun _ => 0)
  case atStart => rfl
  case round =>
    subst hrel
    go_wp2_with fail
    go_ret
    exact ⟨⟨_, rfl⟩, (Below.refl _ _).alloc (Nat.le_refl _) _⟩
def Listed (w : World) (l : List Int) (e : Ending) (w' : World) : Prop := ∃ g, e = .returned (.slice (some ⟨g, 0, none⟩) l.length l.length) ∧ w.heap.size ≤ g ∧ w'.heap[g]? = some (.cells (ints l) 2 (0, 0)) ∧ Below w.heap.size w w'
set_option maxHeartbeats 1000000 in
theorem list_tree {w : World} {b S : Nat} {l s : List Int} (h : Tr w b S l s) : Calls Try.prog 17 #[.pointer (some ⟨b, 0, none⟩)] w (Listed w l) := by
  have hn := h.vd.len
  have hl := len_tree h
  have hl2 := Lib.hid (fun o => len_tree (h.below ((Below.refl _ w).alloc (Nat.le_refl _) o)))
  have hmk := make_ints (l.length : Int) l.length rfl (by omega)
  have H := Lib.hid h
  clear h
  go_enter Try.func17, Try.ntmps17
  go_wp2_with fail
  refine hl.mono ?_
  rintro e w' ⟨rfl, rfl⟩
  go_wp2_with fail
  refine (hl2.out _).mono ?_
  rintro e w' ⟨rfl, rfl⟩
  go_wp2_with fail
  have h0 : Hid ((w.alloc (.cells (ints (List.replicate l.length 0)) 2)).heap[w.heap.size]? = some (.cells (ints (part l 0)) 2 (0, 0))) := Lib.hid (by rw [part_zero]; exact heap_alloc_new w _)
  have B0 : Hid (Below w.heap.size w (w.alloc (.cells (ints (List.replicate l.length 0)) 2))) := Lib.hid ((Below.refl _ _).alloc (Nat.le_refl _) _)
  go_loopw [10] (fun k wr => ∃ j : Nat, k = .int .i64 j ∧ j ≤ l.length ∧ Hid (wr.heap[w.heap.size]? = some (.cells (ints (part l j)) 2 (0, 0))) ∧ Hid (Below w.heap.size w wr)) (fun k _ => l.length - (intOf k).toNat)
  case atStart => exact ⟨0, rfl, Nat.zero_le _, h0, B0⟩
  case round =>
    obtain ⟨j, rfl, hj, HG, HB⟩ := hrel
    by_cases hlt : j < l.length
    · have HA := Lib.hid (at_tree (H.out.below HB.out) j hlt)
      have hp := part_len l j hj
      have hlp : j < (part l j).length := by omega
      have hcl : wr.cell? ⟨w.heap.size, j, none⟩ = some (.int .i64 0) := by
        rw [cell_of_row wr w.heap.size j (ints (part l j)) 2 (0, 0) HG.out]
        simp [ints, hlp, part_at hlt hlp]
      have hfz : wr.frozen? ⟨w.heap.size, j, none⟩ = false := by simp [World.frozen?, HG.out]
      have HS : Hid (∀ n, ((wr.drewN n).setCell ⟨w.heap.size, j, none⟩ (.int .i64 l[j])).heap[w.heap.size]? = some (.cells (ints (part l (j + 1))) 2 (0, 0))) := Lib.hid (fun n => by
        have := row_set HG.out n j l[j]
        have e := part_succ hlt hlp
        rw [part_at hlt hlp, Int.zero_add] at e
        rwa [e] at this)
      clear hp hlp
      generalize l[j] = v at *
      go_wp2_with fail
      refine HA.out.mono ?_
      rintro e w2 ⟨rfl, n, rfl⟩
      have HS' := Lib.hid (HS.out n)
      have HB' : Hid (Below w.heap.size w ((wr.drewN n).setCell ⟨w.heap.size, j, none⟩ (.int .i64 v))) := Lib.hid (by
        have h : Below w.heap.size w (wr.drewN n) := ⟨HB.out.os, HB.out.tape, HB.out.output, HB.out.size, HB.out.block⟩
        exact h.setCell (p := ⟨w.heap.size, j, none⟩) (Nat.le_refl _) _)
      go_wp2_with fail
      go_roundw
      case rel => exact ⟨j + 1, by go_num, by omega, HS', HB'⟩
      case measure => simp [intOf]; omega
    · obtain rfl : j = l.length := by omega
      rw [part_all] at HG
      go_wp2_with fail
      go_ret
      exact ⟨_, rfl, Nat.le_refl _, HG.out, HB.out⟩
end Go.Proofs.Ythdohijhioocgaa
