/- The walk of Select. -/
import Derived.Test.YtbdjpacmbaoaeaaDoorReadW
namespace Go.Proofs.YtbdjpacmbaoaeaaDoor
open Go.RowKit

theorem sel_app_lt : ∀ (a b : List Bool) (k : Nat), k < cnt a → sel k (a ++ b) = sel k a
  | [], b, k, h => by simp [cnt] at h
  | true :: a, b, 0, _ => by simp [sel]
  | true :: a, b, k + 1, h => by
    rw [List.cons_append, sel, sel, sel_app_lt a b k (by simpa [cnt] using h)]
  | false :: a, b, k, h => by
    rw [List.cons_append, sel_false, sel_false, sel_app_lt a b k (by simpa [cnt] using h)]
theorem sel_app_ge : ∀ (a b : List Bool) (k : Nat), sel (cnt a + k) (a ++ b) = a.length + sel k b
  | [], b, k => by simp [cnt]
  | true :: a, b, k => by
    have e : cnt (true :: a) + k = (cnt a + k) + 1 := by simp [cnt]; omega
    rw [List.cons_append, e, sel, sel_app_ge a b k]
    simp; omega
  | false :: a, b, k => by
    have e : cnt (false :: a) + k = cnt a + k := by simp [cnt]
    rw [List.cons_append, e, sel_false, sel_app_ge a b k]
    simp; omega
/-- the place sought lies in this word -/
theorem sel_word (l : List Bool) (j k : Nat) (h : k < cnt ((l.drop (64 * j)).take 64)) : sel (cnt (l.take (64 * j)) + k) l = 64 * j + sel k ((l.drop (64 * j)).take 64) := by
  have hj : 64 * j < l.length := by
    apply Nat.lt_of_not_le
    intro hle
    rw [List.drop_eq_nil_of_le hle] at h
    simp [cnt] at h
  have e := sel_app_ge (l.take (64 * j)) (l.drop (64 * j)) k
  rw [List.take_append_drop] at e
  have e2 := sel_app_lt ((l.drop (64 * j)).take 64) ((l.drop (64 * j)).drop 64) k h
  rw [List.take_append_drop] at e2
  rw [e, e2, List.length_take, Nat.min_eq_left (by omega)]

theorem sel_nil_ (x : Int) (w : World) : Calls Tryd.prog 14 #[.pointer none, .int .i64 x] w fun e w' => e = .returned (.tuple #[.int .i64 0, .int .i64 2]) ∧ w = w' := by
  go_enter Tryd.func14, Tryd.ntmps14
  go_wp2
  go_ret2
  exact ⟨rfl, rfl⟩
theorem sel_neg {b : Nat} (w : World) (x : Int) (h0 : x < 0) : Calls Tryd.prog 14 #[.pointer (some ⟨b, 0, none⟩), .int .i64 x] w fun e w' => e = .returned (.tuple #[.int .i64 0, .int .i64 11]) ∧ w = w' := by
  go_enter Tryd.func14, Tryd.ntmps14
  go_wp2
  go_ret2
  exact ⟨rfl, rfl⟩
/-- what Select answers -/
def selAns (l : List Bool) (k : Nat) : Nat × Int := if k < cnt l then (sel k l, 0) else (0, 11)
set_option maxHeartbeats 1000000 in
theorem sel_any {w : World} {b : Nat} {l : List Bool} (h : Fl w b l) (hT : Tab w) (k : Nat) (hk : (k : Int) ≤ 9223372036854775807) : Calls Tryd.prog 14 #[.pointer (some ⟨b, 0, none⟩), .int .i64 k] w fun e w' => e = .returned (.tuple #[.int .i64 ((selAns l k).1 : Nat), .int .i64 (selAns l k).2]) ∧ ∃ m, w' = w.drewN m := by
  have hl := h.le
  have hc := h.size
  have H : Hid (∀ n, Fl (w.drewN n) b l) := Lib.hid (fun n => h.heap rfl)
  have HT : Hid (∀ n, Tab (w.drewN n)) := Lib.hid (fun n => hT.heap rfl)
  have HW := Lib.hid (quiet_of w (fun W => wordsOf_any l.length hl W))
  obtain ⟨q, e1⟩ : ∃ q, q = (l.length + 63) / 64 := ⟨_, rfl⟩
  rw [← e1] at HW
  have hq : q ≤ 64 := by omega
  have E : Hid (l.length ≤ 64 * q) := Lib.hid (by omega)
  have hs := slice_h b q hq
  clear h e1 hT
  go_enter Tryd.func14, Tryd.ntmps14
  go_wp2_with fail
  go_quiet (first | (go_at_call 37; exact HW.out _))
  go_wp2_with fail
  go_loop [1, 23] (fun x i => ∃ (j n : Nat), x = .int .i64 n ∧ i = .int .i64 j ∧ j ≤ q ∧ (n : Int) ≤ 9223372036854775807 ∧ Hid (k = cnt (l.take (64 * j)) + n)) (fun _ i => q - (intOf i).toNat)
  case atStart => exact ⟨0, k, rfl, rfl, Nat.zero_le _, hk, Lib.hid (by simp [cnt])⟩
  case round =>
    obtain ⟨j, n, rfl, rfl, hj, hn, HN⟩ := hrel
    by_cases hlt : j < q
    · have hcell := (H.out nq).cell j (by omega)
      rw [words_get l j (by omega)] at hcell
      have hcell0 : w.cell? ⟨b, 1 + j, none⟩ = some (.int .u64 (word l j : Nat)) := hcell
      have HO := Lib.hid (ones_any (word l j) (word_lt l j) (w.drewN nq))
      rw [cnt_word] at HO
      have hm := cnt_le ((l.drop (64 * j)).take 64)
      have hm2 : ((l.drop (64 * j)).take 64).length ≤ 64 := by simp; omega
      by_cases hn2 : n < cnt ((l.drop (64 * j)).take 64)
      · have HS := Lib.hid (selIn_any ((l.drop (64 * j)).take 64) hm2 n hn2 (w.drewN nq) (HT.out nq))
        have hsp := (sel_spec _ _ hn2).1
        have ha : Hid (selAns l k = (64 * j + sel n ((l.drop (64 * j)).take 64), 0)) := Lib.hid (by
          have e1 := cnt_take_add l (64 * j) 64
          have e2 := cnt_take_le l (64 * j + 64)
          unfold selAns
          rw [HN.out, if_pos (by omega), sel_word l j n hn2])
        change Hid (Calls Tryd.prog 38 #[.int .u64 (word l j : Nat), .int .i64 n] (w.drewN nq) fun e w' => e = .returned (.int .i64 (sel n ((l.drop (64 * j)).take 64) : Nat)) ∧ w.drewN nq = w') at HS
        generalize sel n ((l.drop (64 * j)).take 64) = p at *
        generalize cnt ((l.drop (64 * j)).take 64) = m at *
        generalize ((l.drop (64 * j)).take 64).length = len at *
        generalize word l j = W at *
        clear hcell HN
        go_wp2_with (first | (go_at_call 35; refine HO.out.mono ?_; rintro e w' ⟨rfl, rfl⟩) | (go_at_call 38; refine HS.out.mono ?_; rintro e w' ⟨rfl, rfl⟩))
        go_ret2
        rw [ha.out]
        refine ⟨?_, _, rfl⟩
        simp
        omega
      · have HN2 : Hid (k = cnt (l.take (64 * (j + 1))) + (n - cnt ((l.drop (64 * j)).take 64))) := Lib.hid (by
          rw [show 64 * (j + 1) = 64 * j + 64 by omega, cnt_take_add]
          have := HN.out
          omega)
        generalize cnt ((l.drop (64 * j)).take 64) = m at *
        generalize word l j = W at *
        clear hcell HN
        go_wp2_with (first | (go_at_call 35; refine HO.out.mono ?_; rintro e w' ⟨rfl, rfl⟩))
        go_round
        case rel => exact ⟨j + 1, n - m, by go_num, by go_num, by omega, by omega, HN2⟩
        case measure => simp [intOf]; omega
    · obtain rfl : j = q := by omega
      have ha : Hid (selAns l k = (0, 11)) := Lib.hid (by
        have := HN.out
        rw [cnt_take_all l E.out] at this
        unfold selAns
        rw [if_neg (by omega)])
      go_wp2_with fail
      go_ret2
      rw [ha.out]
      exact ⟨rfl, _, rfl⟩
end Go.Proofs.YtbdjpacmbaoaeaaDoor
