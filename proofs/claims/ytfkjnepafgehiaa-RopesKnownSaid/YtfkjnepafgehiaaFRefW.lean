/- Walks of Check, and of the reference's Check, Sum and Find, over a list that is read. -/
import Derived.Test.YtfkjnepafgehiaaFBase
import Derived.IntWalk
namespace Go.Proofs.Ytfkjnepafgehiaa
open Go.RowKit

/-- The slice value '.slice A n c' reads as the list of integers zs, all of it below block B. -/
def RdI (w : World) (B : Nat) (A : Option Addr) (zs : List Int) : Prop :=
  ∀ k (h : k < zs.length), ∃ b o, A = some ⟨b, o, none⟩ ∧ b < B ∧ w.cell? ⟨b, o + k, none⟩ = some (.int .i64 zs[k])
section
variable {w w' : World} {B B' : Nat} {A : Option Addr} {zs : List Int}
theorem RdI.nil : RdI w B A [] := fun k h => absurd h (by simp)
theorem RdI.below (h : RdI w B A zs) (hb : Below B w w') : RdI w' B A zs := fun k hl => by
  obtain ⟨b, o, e, hl2, h1⟩ := h k hl
  exact ⟨b, o, e, hl2, (hb.cell (p := ⟨b, o + k, none⟩) hl2).trans h1⟩
theorem RdI.more (h : RdI w B A zs) (hB : B ≤ B') : RdI w B' A zs := fun k hl => by
  obtain ⟨b, o, e, hl2, h1⟩ := h k hl
  exact ⟨b, o, e, by omega, h1⟩
theorem RdI.next (h : RdI w w.heap.size A zs) (hb : Below w.heap.size w w') : RdI w' w'.heap.size A zs := (h.below hb).more hb.size
theorem RdI.drewN (h : RdI w B A zs) (n : Nat) : RdI (w.drewN n) B A zs := h
end

/-- what is wrong with the rest of a list, behind the sum acc -/
def chkF (acc : Int) : List Int → Int
  | [] => 0
  | x :: r => if x < 0 ∨ 2305843009213693952 < x then 12 else if 4611686018427387904 < acc + x then 13 else chkF (acc + x) r
/-- what is wrong with a list of sizes -/
def chk (l : List Int) : Int := if 4096 < l.length then 3 else chkF 0 l
theorem chkF_drop {l : List Int} {k : Nat} (acc : Int) (h : k < l.length) : chkF acc (l.drop k) = if l[k] < 0 ∨ 2305843009213693952 < l[k] then 12 else if 4611686018427387904 < acc + l[k] then 13 else chkF (acc + l[k]) (l.drop (k + 1)) := by
  rw [List.drop_eq_getElem_cons h, chkF]
theorem chkF_end {l : List Int} {k : Nat} (acc : Int) (h : l.length ≤ k) : chkF acc (l.drop k) = 0 := by
  rw [List.drop_of_length_le h, chkF]

set_option maxHeartbeats 1000000 in
theorem check_any (A : Option Addr) (c : Nat) (zs : List Int) (w : World) (hr : RdI w w.heap.size A zs) (hl : zs.length ≤ 9223372036854775807) :
    Calls Try.prog 37 #[.slice A zs.length c] w fun e w' => e = .returned (.int .i64 (chk zs)) ∧ w = w' := by
  unfold chk
  by_cases h4 : 4096 < zs.length
  · rw [if_pos h4]
    go_enter Try.func37, Try.ntmps37
    go_wp2
    go_ret
    exact ⟨rfl, rfl⟩
  · rw [if_neg h4]
    have HR := Lib.hid hr
    clear hr
    go_enter Try.func37, Try.ntmps37
    go_wp2_with fail
    go_loop [3, 11] (fun a k => ∃ (n : Nat) (x : Int), n ≤ zs.length ∧ k = .int .i64 n ∧ a = .int .i64 x ∧ 0 ≤ x ∧ x ≤ 4611686018427387904 ∧ Hid (chkF 0 zs = chkF x (zs.drop n))) (fun _ k => zs.length - (intOf k).toNat)
    case atStart => exact ⟨0, 0, Nat.zero_le _, rfl, rfl, by omega, by omega, Lib.hid rfl⟩
    case round =>
      obtain ⟨n, x, hn, rfl, rfl, hx0, hx1, HX⟩ := hrel
      by_cases hlt : n < zs.length
      · obtain ⟨b, o, rfl, hb, hc⟩ := HR.out n hlt
        have HD := Lib.hid (chkF_drop x hlt)
        have hh : Hid (∀ W, Calls Try.prog 53 #[.int .i64 zs[n]] W fun e w' => e = .returned (.bool (decide (0 ≤ zs[n] ∧ zs[n] ≤ 2305843009213693952))) ∧ W = w') := Lib.hid (fun W => isHeight_any _ W)
        generalize zs[n] = v at *
        by_cases hv : 0 ≤ v ∧ v ≤ 2305843009213693952
        · have hd : decide (0 ≤ v ∧ v ≤ 2305843009213693952) = true := by simpa using hv
          rw [hd] at hh
          obtain ⟨hv0, hv1⟩ := hv
          clear hd
          by_cases hs : 4611686018427387904 < x + v
          · go_wp2_with (go_at_call 53; refine (hh.out _).mono ?_; rintro e w' ⟨rfl, rfl⟩)
            go_ret
            exact ⟨ret_int (by rw [HX.out, HD.out, if_neg (by omega), if_pos hs]), rfl⟩
          · go_wp2_with (go_at_call 53; refine (hh.out _).mono ?_; rintro e w' ⟨rfl, rfl⟩)
            go_round
            case rel => exact ⟨n + 1, x + v, by omega, by go_num, rfl, by omega, by omega, Lib.hid (by rw [HX.out, HD.out, if_neg (by omega), if_neg (by omega)])⟩
            case measure => simp [intOf]; omega
        · have hd : decide (0 ≤ v ∧ v ≤ 2305843009213693952) = false := by simpa using hv
          rw [hd] at hh
          have HV := Lib.hid hv
          clear hd hv
          go_wp2_with (go_at_call 53; refine (hh.out _).mono ?_; rintro e w' ⟨rfl, rfl⟩)
          go_ret
          exact ⟨ret_int (by rw [HX.out, HD.out, if_pos (by have := HV.out; omega)]), rfl⟩
      · go_wp2_with fail
        go_ret
        exact ⟨ret_int (by rw [HX.out, chkF_end _ (by omega)]), rfl⟩

set_option maxHeartbeats 1000000 in
theorem refCheck_any (A : Option Addr) (c : Nat) (zs : List Int) (w : World) (hr : RdI w w.heap.size A zs) (hl : zs.length ≤ 9223372036854775807) :
    Calls Try.prog 10 #[.slice A zs.length c] w fun e w' => e = .returned (.int .i64 (chk zs)) ∧ w = w' := by
  unfold chk
  by_cases h4 : 4096 < zs.length
  · rw [if_pos h4]
    go_enter Try.func10, Try.ntmps10
    go_wp2
    go_ret
    exact ⟨rfl, rfl⟩
  · rw [if_neg h4]
    have HR := Lib.hid hr
    clear hr
    go_enter Try.func10, Try.ntmps10
    go_wp2_with fail
    go_loop [3, 4] (fun a k => ∃ (n : Nat) (x : Int), n ≤ zs.length ∧ k = .int .i64 n ∧ a = .int .i64 x ∧ 0 ≤ x ∧ x ≤ 4611686018427387904 ∧ Hid (chkF 0 zs = chkF x (zs.drop n))) (fun _ k => zs.length - (intOf k).toNat)
    case atStart => exact ⟨0, 0, Nat.zero_le _, rfl, rfl, by omega, by omega, Lib.hid rfl⟩
    case round =>
      obtain ⟨n, x, hn, rfl, rfl, hx0, hx1, HX⟩ := hrel
      by_cases hlt : n < zs.length
      · obtain ⟨b, o, rfl, hb, hc⟩ := HR.out n hlt
        have HD := Lib.hid (chkF_drop x hlt)
        generalize zs[n] = v at *
        by_cases hv : 0 ≤ v ∧ v ≤ 2305843009213693952
        · obtain ⟨hv0, hv1⟩ := hv
          by_cases hs : 4611686018427387904 < x + v
          · go_wp2_with fail
            go_ret
            exact ⟨ret_int (by rw [HX.out, HD.out, if_neg (by omega), if_pos hs]), rfl⟩
          · go_wp2_with fail
            go_round
            case rel => exact ⟨n + 1, x + v, by omega, by go_num, rfl, by omega, by omega, Lib.hid (by rw [HX.out, HD.out, if_neg (by omega), if_neg hs])⟩
            case measure => simp [intOf]; omega
        · have HV := Lib.hid hv
          clear hv
          go_wp2_with fail
          all_goals first
            | (go_ret
               exact ⟨ret_int (by rw [HX.out, HD.out, if_pos (by have := HV.out; omega)]), rfl⟩)
            | (exfalso; have := HV.out; omega)
      · go_wp2_with fail
        go_ret
        exact ⟨ret_int (by rw [HX.out, chkF_end _ (by omega)]), rfl⟩

theorem chkF_ok {l : List Int} : ∀ (k : Nat), k ≤ l.length → (chkF (pre l k) (l.drop k) = 0 ↔ ∀ n (h : n < l.length), k ≤ n → 0 ≤ l[n] ∧ l[n] ≤ 2305843009213693952 ∧ pre l (n + 1) ≤ 4611686018427387904) := by
  have : ∀ d k, k + d = l.length → (chkF (pre l k) (l.drop k) = 0 ↔ ∀ n (h : n < l.length), k ≤ n → 0 ≤ l[n] ∧ l[n] ≤ 2305843009213693952 ∧ pre l (n + 1) ≤ 4611686018427387904) := by
    intro d
    induction d with
    | zero => intro k hk; rw [chkF_end _ (by omega)]; exact ⟨fun _ n h hn => by omega, fun _ => rfl⟩
    | succ d ih =>
      intro k hk
      have hlt : k < l.length := by omega
      rw [chkF_drop _ hlt, ← pre_succ hlt]
      have := ih (k + 1) (by omega)
      constructor
      · intro h n hn hkn
        by_cases h1 : l[k] < 0 ∨ 2305843009213693952 < l[k]
        · rw [if_pos h1] at h; omega
        · rw [if_neg h1] at h
          by_cases h2 : 4611686018427387904 < pre l (k + 1)
          · rw [if_pos h2] at h; omega
          · rw [if_neg h2] at h
            rcases Nat.eq_or_lt_of_le hkn with e | e
            · subst e; omega
            · exact this.1 h n hn e
      · intro h
        have hk := h k hlt (Nat.le_refl _)
        rw [if_neg (by omega), if_neg (by omega)]
        exact this.2 fun n hn hkn => h n hn (by omega)
  intro k hk
  exact this (l.length - k) k (by omega)
theorem chk_zero {l : List Int} : chk l = 0 ↔ Vd l := by
  unfold chk
  constructor
  · intro h
    by_cases h4 : 4096 < l.length
    · rw [if_pos h4] at h; omega
    · rw [if_neg h4] at h
      have h0 := (chkF_ok (l := l) 0 (by omega)).1 (by rw [pre_zero]; simpa using h)
      refine ⟨by omega, fun k hk => ⟨(h0 k hk (by omega)).1, (h0 k hk (by omega)).2.1⟩, ?_⟩
      rcases Nat.eq_zero_or_pos l.length with e | e
      · rw [e, pre_zero]; omega
      · have := (h0 (l.length - 1) (by omega) (by omega)).2.2
        rwa [show l.length - 1 + 1 = l.length from by omega] at this
  · intro h
    rw [if_neg (by have := h.len; omega)]
    have h0 := (chkF_ok (l := l) 0 (by omega)).2 fun n hn _ => ⟨(h.each n hn).1, (h.each n hn).2, h.hi _⟩
    rw [pre_zero] at h0
    simpa using h0

set_option maxHeartbeats 1000000 in
theorem refSum_any (A : Option Addr) (c : Nat) (zs : List Int) (w : World) (hr : RdI w w.heap.size A zs) (hv : Vd zs) (i : Nat) (hi : i ≤ zs.length) :
    Calls Try.prog 22 #[.slice A zs.length c, .int .i64 i] w fun e w' => e = .returned (.int .i64 (pre zs i)) ∧ w = w' := by
  have hl := hv.len
  have HR := Lib.hid hr
  have HV := Lib.hid hv
  clear hr hv
  go_enter Try.func22, Try.ntmps22
  go_wp2_with fail
  go_loop [5, 6] (fun a k => ∃ n : Nat, n ≤ i ∧ k = .int .i64 n ∧ a = .int .i64 (pre zs n)) (fun _ k => i - (intOf k).toNat)
  case atStart => exact ⟨0, Nat.zero_le _, rfl, by rw [pre_zero]⟩
  case round =>
    obtain ⟨n, hn, rfl, rfl⟩ := hrel
    by_cases hlt : n < i
    · have hnl : n < zs.length := by omega
      obtain ⟨b, o, rfl, hb, hc⟩ := HR.out n hnl
      have HS := Lib.hid (pre_succ hnl)
      have h0 := HV.out.lo n
      have h1 := HV.out.hi (n + 1)
      have h2 := HV.out.each n hnl
      rw [HS.out] at h1
      generalize zs[n] = v at *
      generalize pre zs n = p at *
      go_wp2_with fail
      go_round
      case rel => exact ⟨n + 1, by omega, by go_num, by rw [HS.out]⟩
      case measure => simp [intOf]; omega
    · obtain rfl : n = i := by omega
      go_wp2_with fail
      go_ret
      exact ⟨rfl, rfl⟩

end Go.Proofs.Ytfkjnepafgehiaa
