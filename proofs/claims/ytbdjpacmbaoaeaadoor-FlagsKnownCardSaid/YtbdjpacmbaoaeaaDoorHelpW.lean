/- The walks of the reference's Rank and Next, and of made, same and bits. -/
import Derived.Test.YtbdjpacmbaoaeaaDoorMvW
import Derived.Test.YtbdjpacmbaoaeaaDoorSpansW
import Derived.Test.YtbdjpacmbaoaeaaDoorSMarksW
namespace Go.Proofs.YtbdjpacmbaoaeaaDoor
open Go.RowKit S

theorem RdB.drewN {w : World} {B : Nat} {A : Option Addr} {ms : List Bool} (h : RdB w B A ms) (k : Nat) : RdB (w.drewN k) B A ms := h
set_option maxHeartbeats 1000000 in
theorem refRank_any (A : Option Addr) (c : Nat) (l : List Bool) (i : Nat) (w : World) (hr : RdB w w.heap.size A l) (hi : i ≤ l.length) (hl : l.length ≤ 1000000) : Calls Tryd.prog 13 #[.slice A l.length c, .int .i64 i] w fun e w' => e = .returned (.int .i64 (cnt (l.take i) : Nat)) ∧ w = w' := by
  have HR := Lib.hid hr
  clear hr
  go_enter Tryd.func13, Tryd.ntmps13
  go_wp2_with fail
  go_loop [5, 6] (fun x k => ∃ (j n : Nat), x = .int .i64 n ∧ k = .int .i64 j ∧ j ≤ i ∧ n ≤ j ∧ Hid (n = cnt (l.take j))) (fun _ k => i - (intOf k).toNat)
  case atStart => exact ⟨0, 0, rfl, rfl, Nat.zero_le _, Nat.le_refl _, Lib.hid (by simp [cnt])⟩
  case round =>
    obtain ⟨j, n, rfl, rfl, hj, hn, HN⟩ := hrel
    by_cases hlt : j < i
    · obtain ⟨b, o, hA, hbl, c0⟩ := HR.out j (by omega)
      subst hA
      have HS := Lib.hid (cnt_take_succ l j (by omega))
      have hjl : j < l.length := by omega
      cases hv : l[j] with
      | true =>
        have HN2 : Hid (n + 1 = cnt (l.take (j + 1))) := Lib.hid (by rw [HS.out, ← HN.out, hv]; rfl)
        rw [hv] at c0
        clear HS hv HN
        go_wp2_with fail
        go_round
        case rel => exact ⟨j + 1, n + 1, by go_num, by go_num, by omega, by omega, HN2⟩
        case measure => simp [intOf]; omega
      | false =>
        have HN2 : Hid (n = cnt (l.take (j + 1))) := Lib.hid (by rw [HS.out, ← HN.out, hv]; rfl)
        rw [hv] at c0
        clear HS hv HN
        go_wp2_with fail
        go_round
        case rel => exact ⟨j + 1, n, rfl, by go_num, by omega, by omega, HN2⟩
        case measure => simp [intOf]; omega
    · obtain rfl : j = i := by omega
      go_wp2_with fail
      go_ret
      exact ⟨ret_int (by rw [HN.out]), rfl⟩
/-- the answer of the reference's Next -/
def nxRef : Option Nat → Int
  | some p => p
  | none => -1
set_option maxHeartbeats 1000000 in
theorem refNext_any (A : Option Addr) (c : Nat) (l : List Bool) (i : Nat) (v : Bool) (w : World) (hr : RdB w w.heap.size A l) (hi : i ≤ l.length) (hl : l.length ≤ 1000000) : Calls Tryd.prog 17 #[.slice A l.length c, .int .i64 i, .bool v] w fun e w' => ∃ r, e = .returned (.int .i64 (nxRef r)) ∧ IsNx l i v r ∧ w = w' := by
  have HR := Lib.hid hr
  clear hr
  go_enter Tryd.func17, Tryd.ntmps17
  go_wp2_with fail
  go_loop [7] (fun k => ∃ (j : Nat), k = .int .i64 j ∧ i ≤ j ∧ j ≤ l.length ∧ Hid (∀ q, i ≤ q → q < j → l[q]? ≠ some v)) (fun k => l.length - (intOf k).toNat)
  case atStart => exact ⟨i, rfl, Nat.le_refl _, hi, Lib.hid (fun q h1 h2 => by omega)⟩
  case round =>
    obtain ⟨j, rfl, hij, hj, HN⟩ := hrel
    by_cases hlt : j < l.length
    · obtain ⟨b, o, hA, hbl, c0⟩ := HR.out j hlt
      subst hA
      by_cases hv : l[j] = v
      · rw [hv] at c0
        have hvv : (v == v) = true := by simp
        have HE : Hid (IsNx l i v (some j)) := Lib.hid ⟨hij, hlt, by rw [List.getElem?_eq_getElem hlt, hv], HN.out⟩
        go_wp2_with fail
        go_ret
        exact ⟨some j, rfl, HE.out, rfl⟩
      · have hvv : (l[j] == v) = false := by simpa using hv
        have HN2 : Hid (∀ q, i ≤ q → q < j + 1 → l[q]? ≠ some v) := Lib.hid (fun q h1 h2 => by
          by_cases e : q = j
          · subst e
            rw [List.getElem?_eq_getElem hlt]
            intro h
            exact hv (Option.some.inj h)
          · exact HN.out q h1 (by omega))
        generalize l[j] = u at *
        clear HN
        go_wp2_with fail
        go_round
        case rel => exact ⟨j + 1, by go_num, by omega, by omega, HN2⟩
        case measure => simp [intOf]; omega
    · obtain rfl : j = l.length := by omega
      go_wp2_with fail
      go_ret
      exact ⟨none, rfl, HN.out, rfl⟩

theorem made_step (l : List Bool) (i : Nat) (h : i < l.length) : (l.take i ++ List.replicate (l.length - i) false).set i l[i] = l.take (i + 1) ++ List.replicate (l.length - (i + 1)) false := by
  have e : l.length - i = (l.length - (i + 1)) + 1 := by omega
  rw [e, List.replicate_succ, List.set_append_right _ _ (by simp; omega), List.length_take, Nat.min_eq_left (by omega), Nat.sub_self, List.set_cons_zero, List.take_succ_eq_append_getElem h, List.append_assoc]
  rfl
set_option maxHeartbeats 1000000 in
theorem made_any (A : Option Addr) (c : Nat) (l : List Bool) (w : World) (hr : RdB w w.heap.size A l) (hl : l.length ≤ 4096) : Calls Tryd.prog 10 #[.slice A l.length c] w fun e w' => ∃ b, e = .returned (.tuple #[.pointer (some ⟨b, 0, none⟩), .bool true]) ∧ Nw w l b w' := by
  have HR := Lib.hid hr
  have HNw := Lib.hid (new_ok l.length hl w)
  clear hr
  go_enter Tryd.func10, Tryd.ntmps10
  go_wp2_with fail
  refine HNw.out.mono ?_
  rintro e w1 ⟨b, rfl, h1, h2, h3⟩
  have H1 := Lib.hid h1
  have H2 := Lib.hid h2
  have H3 := Lib.hid h3
  clear h1 h2 h3 HNw
  go_wp2_with fail
  go_loopw [6] (fun k wr => ∃ (i : Nat), k = .int .i64 i ∧ i ≤ l.length ∧ Hid (Fl wr b (l.take i ++ List.replicate (l.length - i) false)) ∧ Hid (Below w.heap.size w wr)) (fun k _ => l.length - (intOf k).toNat)
  case atStart => exact ⟨0, rfl, Nat.zero_le _, by simpa using H1, H3⟩
  case round =>
    obtain ⟨i, rfl, hi, HF, HB⟩ := hrel
    by_cases hlt : i < l.length
    · obtain ⟨p, o, hA, hbl, c0⟩ := HR.out.below HB.out i hlt
      subst hA
      have KS := Lib.hid (set_in HF.out i l[i] (by simp; omega))
      rw [made_step l i hlt] at KS
      generalize l[i] = v at *
      go_wp2_with fail
      refine KS.out.mono ?_
      rintro e w2 ⟨rfl, h4, h5⟩
      have H4 := Lib.hid h4
      have HB2 : Hid (Below w.heap.size w w2) := Lib.hid (HB.out.trans (h5.below H2.out HB.out.size))
      clear h4 h5
      go_wp2_with fail
      go_roundw
      case rel => exact ⟨i + 1, by go_num, by omega, H4, HB2⟩
      case measure => simp [intOf]; omega
    · obtain rfl : i = l.length := by omega
      have HE : Hid (Fl wr b l) := Lib.hid (by have := HF.out; rw [List.take_length, Nat.sub_self, List.replicate_zero, List.append_nil] at this; exact this)
      clear HF
      go_wp2_with fail
      go_ret2
      exact ⟨b, rfl, HE.out, H2.out, HB.out⟩
set_option maxHeartbeats 1000000 in
theorem same_any {w : World} {b : Nat} {l : List Bool} (h : Fl w b l) (A : Option Addr) (c : Nat) (hr : RdB w w.heap.size A l) : Calls Tryd.prog 11 #[.pointer (some ⟨b, 0, none⟩), .slice A l.length c] w fun e w' => e = .returned (.bool true) ∧ ∃ k, w' = w.drewN k := by
  have hl := h.le
  have H : Hid (∀ k, Fl (w.drewN k) b l) := Lib.hid (fun k => h.drewN k)
  have HR : Hid (∀ k, RdB (w.drewN k) (w.drewN k).heap.size A l) := Lib.hid (fun k => hr)
  have K1 := Lib.hid (len_any h)
  have K2 := Lib.hid (count_any h)
  have K3 : Hid (∀ k, Calls Tryd.prog 13 #[.slice A l.length c, .int .i64 l.length] (w.drewN k) fun e w' => e = .returned (.int .i64 (cnt l : Nat)) ∧ w.drewN k = w') := Lib.hid (fun k => by
    have := refRank_any A c l l.length (w.drewN k) (HR.out k) (Nat.le_refl _) (by omega)
    rwa [List.take_length] at this)
  clear h hr
  have hne : ((cnt l : Nat) : Int) = ((cnt l : Nat) : Int) := rfl
  generalize cnt l = q at *
  go_enter Tryd.func11, Tryd.ntmps11
  go_wp2_with (first | (go_at_call 31; refine K1.out.mono ?_; rintro e w' ⟨rfl, rfl⟩) | (go_at_call 15; refine K2.out.mono ?_; rintro e w' ⟨rfl, k, rfl⟩) | (go_at_call 13; refine (K3.out _).mono ?_; rintro e w' ⟨rfl, rfl⟩))
  go_loop [5] (fun x => ∃ (i : Nat), x = .int .i64 i ∧ i ≤ l.length) (fun x => l.length - (intOf x).toNat)
  case atStart => exact ⟨0, rfl, Nat.zero_le _⟩
  case round =>
    obtain ⟨i, rfl, hi⟩ := hrel
    by_cases hlt : i < l.length
    · obtain ⟨p, o, hA, hbl, c0⟩ := HR.out k i hlt
      subst hA
      have c1 : w.cell? ⟨p, o + i, none⟩ = some (.bool l[i]) := c0
      have KG := Lib.hid (get_in (H.out k) i hlt)
      have hvv : (l[i] != l[i]) = false := by simp
      generalize l[i] = v at *
      clear c0
      go_wp2_with (first | (go_at_call 18; refine KG.out.mono ?_; rintro e w' ⟨rfl, rfl⟩))
      go_round
      case rel => exact ⟨i + 1, by go_num, by omega⟩
      case measure => simp [intOf]; omega
    · go_wp2_with fail
      go_ret
      exact ⟨rfl, k, rfl⟩
end Go.Proofs.YtbdjpacmbaoaeaaDoor
