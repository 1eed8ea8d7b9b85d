/- Words for memory that the walks of this seat share, and the smallest functions. -/
import Derived.Test.YtfkjnepafgehiaaProg
import Derived.Test.YtfkjnepafgehiaaFPlain
import Derived.WalkKit
import Derived.WalkSpells
import Derived.WalkLawsBesides
import Derived.Lib.Hide
import Derived.Laws.OwnMore
import Derived.Deep.AppendLies
import Derived.Deep.Draws
import Derived.Deep.QuietTactic
import Derived.BigQuiet
import Derived.StillTailTactics
import Derived.Deep.RegionHeld3
import Derived.OneCell
import Derived.Outline
namespace Go.Proofs.Ytfkjnepafgehiaa
open Go.RowKit

theorem ret_int {k : IntKind} {a b : Int} (h : a = b) : Ending.returned (.int k a) = .returned (.int k b) := by rw [h]
theorem ret_bool {a b : Bool} (h : a = b) : Ending.returned (.bool a) = .returned (.bool b) := by rw [h]

theorem and_compl (n : Nat) : ∀ k, k < 2 ^ n → k &&& (2 ^ n - 1 - k) = 0 := by
  induction n with
  | zero => intro k hk; simp at hk; subst hk; simp
  | succ n ih =>
    intro k hk
    rw [Nat.pow_succ] at hk ⊢
    have h1 := Nat.and_div_two_pow (a := k) (b := 2 ^ n * 2 - 1 - k) (n := 1)
    have h2 := Nat.and_mod_two_eq_one (a := k) (b := 2 ^ n * 2 - 1 - k)
    have e : (2 ^ n * 2 - 1 - k) / 2 = 2 ^ n - 1 - k / 2 := by omega
    simp only [Nat.pow_one] at h1
    rw [e, ih (k / 2) (by omega)] at h1
    omega
theorem and_neg (n : Nat) : ∀ k, 0 < k → k < 2 ^ n → k &&& (2 ^ n - k) = lowN k := by
  induction n with
  | zero => intro k h0 hk; simp at hk; omega
  | succ n ih =>
    intro k h0 hk
    rw [Nat.pow_succ] at hk ⊢
    have h1 := Nat.and_div_two_pow (a := k) (b := 2 ^ n * 2 - k) (n := 1)
    have h2 := Nat.and_mod_two_eq_one (a := k) (b := 2 ^ n * 2 - k)
    simp only [Nat.pow_one] at h1
    by_cases ho : k % 2 = 1
    · have e : (2 ^ n * 2 - k) / 2 = 2 ^ n - 1 - k / 2 := by omega
      rw [e, and_compl n (k / 2) (by omega)] at h1
      rw [lowN, if_neg (by omega), if_pos ho]
      omega
    · have e : (2 ^ n * 2 - k) / 2 = 2 ^ n - k / 2 := by omega
      rw [e, ih (k / 2) (by omega) (by omega)] at h1
      rw [lowN, if_neg (by omega), if_neg ho]
      omega
theorem bits_low (k : Nat) (h : k ≤ 100000) : bits BinOp.and IntKind.i64 (k : Int) (-(k : Int)) = (lowN k : Int) := by
  show IntKind.i64.wrap ((BitVec.ofInt 64 (k : Int) &&& BitVec.ofInt 64 (-(k : Int))).toNat : Int) = _
  rw [BitVec.toNat_and]
  have e1 : (BitVec.ofInt 64 (k : Int)).toNat = k := by
    rw [BitVec.toNat_ofInt]; omega
  rcases Nat.eq_zero_or_pos k with h0 | h0
  · subst h0; simp [lowN_zero]; rfl
  · have e2 : (BitVec.ofInt 64 (-(k : Int))).toNat = 2 ^ 64 - k := by
      rw [BitVec.toNat_ofInt]; omega
    rw [e1, e2, and_neg 64 k h0 (by omega)]
    have := lowN_le k
    rw [IntKind.wrap_i64]; omega

theorem low_any (k : Nat) (w : World) (h : k ≤ 100000) : Calls Try.prog 44 #[.int .i64 k] w fun e w' => e = .returned (.int .i64 (lowN k)) ∧ w = w' := by
  go_enter Try.func44, Try.ntmps44
  go_wp2
  go_ret
  exact ⟨ret_int (bits_low k h), rfl⟩

theorem isHeight_any (x : Int) (w : World) : Calls Try.prog 53 #[.int .i64 x] w fun e w' => e = .returned (.bool (decide (0 ≤ x ∧ x ≤ 2305843009213693952))) ∧ w = w' := by
  go_enter Try.func53, Try.ntmps53
  go_wp2
  all_goals
    go_ret
    exact ⟨ret_bool (by simp; omega), rfl⟩

/-- the cells of a list of integers -/
def ints (zs : List Int) : Array Value := (zs.map (Value.int .i64)).toArray

/-- The tree at block b, with its sums in block S. -/
structure Tr (w : World) (b S : Nat) (l s : List Int) : Prop where
  box : w.heap[b]? = some (.cells #[.slice (some ⟨S, 0, none⟩) (l.length + 1) (l.length + 1)] 71 (0, 0))
  row : w.heap[S]? = some (.cells (ints s) 2 (0, 0))
  fen : Fen l s
  vd : Vd l

/-- No tree, or the zero one. -/
def NoTree (w : World) (p : Option Addr) : Prop := p = none ∨ ∃ b, p = some ⟨b, 0, none⟩ ∧ w.heap[b]? = some (.cells #[.slice none 0 0] 71 (0, 0))

theorem nil_hold (w : World) : NoTree w none := .inl rfl
theorem isNone_tree {w : World} {b S : Nat} {l s : List Int} (h : Tr w b S l s) : Calls Try.prog 42 #[.pointer (some ⟨b, 0, none⟩)] w fun e w' => e = .returned (.bool false) ∧ w = w' := by
  have hc := cell_of_one h.box
  have hl := h.vd.len
  have hb : ((l.length : Int) + 1 == 0) = false := by simp; omega
  clear h
  go_enter Try.func42, Try.ntmps42
  go_wp2
  go_ret
  exact ⟨rfl, rfl⟩
theorem isNone_none {w : World} {p : Option Addr} (h : NoTree w p) : Calls Try.prog 42 #[.pointer p] w fun e w' => e = .returned (.bool true) ∧ w = w' := by
  rcases h with rfl | ⟨b, rfl, h⟩
  · go_enter Try.func42, Try.ntmps42
    go_wp2
    go_ret
    exact ⟨rfl, rfl⟩
  · have hc := cell_of_one h
    clear h
    go_enter Try.func42, Try.ntmps42
    go_wp2
    go_ret
    exact ⟨rfl, rfl⟩
theorem len_tree {w : World} {b S : Nat} {l s : List Int} (h : Tr w b S l s) : Calls Try.prog 15 #[.pointer (some ⟨b, 0, none⟩)] w fun e w' => e = .returned (.int .i64 l.length) ∧ w = w' := by
  have hc := cell_of_one h.box
  have hl := h.vd.len
  have hi := isNone_tree h
  clear h
  go_enter Try.func15, Try.ntmps15
  go_wp2_with (go_at_call 42; refine hi.mono ?_; rintro e w' ⟨rfl, rfl⟩)
  go_ret
  exact ⟨ret_int (by omega), rfl⟩
theorem len_none {w : World} {p : Option Addr} (h : NoTree w p) : Calls Try.prog 15 #[.pointer p] w fun e w' => e = .returned (.int .i64 0) ∧ w = w' := by
  have hi := isNone_none h
  clear h
  go_enter Try.func15, Try.ntmps15
  go_wp2_with (go_at_call 42; refine hi.mono ?_; rintro e w' ⟨rfl, rfl⟩)
  go_ret
  exact ⟨rfl, rfl⟩
theorem Tr.cell {w : World} {b S : Nat} {l s : List Int} (h : Tr w b S l s) (k : Nat) (hk : k < s.length) : w.cell? ⟨S, k, none⟩ = some (.int .i64 s[k]) := by
  have := cell_of_row w S k (ints s) 2 (0, 0) h.row
  rw [this]
  simp [ints, hk]
theorem sum_none {w : World} {p : Option Addr} (i : Int) (h : NoTree w p) : Calls Try.prog 19 #[.pointer p, .int .i64 i] w fun e w' => e = .returned (.tuple #[.int .i64 0, .int .i64 2]) ∧ w = w' := by
  have hi := isNone_none h
  clear h
  go_enter Try.func19, Try.ntmps19
  go_wp2_with (go_at_call 42; refine hi.mono ?_; rintro e w' ⟨rfl, rfl⟩)
  go_ret2
  exact ⟨rfl, rfl⟩
theorem sum_out {w : World} {b S : Nat} {l s : List Int} (h : Tr w b S l s) (i : Int) (ho : i < 0 ∨ (l.length : Int) < i) :
    Calls Try.prog 19 #[.pointer (some ⟨b, 0, none⟩), .int .i64 i] w fun e w' => e = .returned (.tuple #[.int .i64 0, .int .i64 4]) ∧ w = w' := by
  have hi := isNone_tree h
  have hl := len_tree h
  have hn := h.vd.len
  clear h
  rcases ho with ho | ho
  · go_enter Try.func19, Try.ntmps19
    go_wp2_with (go_at_call 42; refine hi.mono ?_; rintro e w' ⟨rfl, rfl⟩)
    go_ret2
    exact ⟨rfl, rfl⟩
  · have hp : ¬ i < 0 := by omega
    go_enter Try.func19, Try.ntmps19
    go_wp2_with (first | (go_at_call 42; refine hi.mono ?_; rintro e w' ⟨rfl, rfl⟩) | (go_at_call 15; refine hl.mono ?_; rintro e w' ⟨rfl, rfl⟩))
    go_ret2
    exact ⟨rfl, rfl⟩
theorem sum_tree {w : World} {b S : Nat} {l s : List Int} (h : Tr w b S l s) (i : Nat) (hin : i ≤ l.length) :
    Calls Try.prog 19 #[.pointer (some ⟨b, 0, none⟩), .int .i64 i] w fun e w' => e = .returned (.tuple #[.int .i64 (pre l i), .int .i64 0]) ∧ w = w' := by
  have hi := isNone_tree h
  have hl := len_tree h
  have hn := h.vd.len
  have hc := cell_of_one h.box
  have H : Hid (Tr w b S l s) := Lib.hid h
  have d1 : decide ((i : Int) < 0) = false := by simp
  have d2 : decide (l.length < i) = false := by simp; omega
  clear h
  go_enter Try.func19, Try.ntmps19
  go_wp2_with (first | (go_at_call 42; refine hi.mono ?_; rintro e w' ⟨rfl, rfl⟩) | (go_at_call 15; refine hl.mono ?_; rintro e w' ⟨rfl, rfl⟩))
  go_loop [6, 7] (fun a k => ∃ (n : Nat) (x : Int), n ≤ i ∧ k = .int .i64 n ∧ a = .int .i64 x ∧ Hid (x = pre l i - pre l n)) (fun _ k => (intOf k).toNat)
  case atStart => exact ⟨i, 0, Nat.le_refl _, rfl, rfl, Lib.hid (by omega)⟩
  case round =>
    obtain ⟨n, x, hni, rfl, rfl, HX⟩ := hrel
    by_cases hpos : 0 < n
    · have hs : n < s.length := by rw [H.out.fen.len]; omega
      have hcell := H.out.cell n hs
      have hv := H.out.fen.at_ n hs hpos
      have hle := lowN_le n
      have hlo := lowN_pos hpos
      have hlow := low_any n w (by omega)
      have b1 := H.out.vd.mono (a := n - lowN n) (b := n) (by omega)
      have b2 := H.out.vd.mono hni
      have b3 := H.out.vd.hi i
      have b4 := H.out.vd.lo (n - lowN n)
      have b5 := H.out.vd.hi n
      have HV : Hid (s[n] = pre l n - pre l (n - lowN n)) := Lib.hid hv
      have hx0 : 0 ≤ x ∧ x ≤ 4611686018427387904 := by have := HX.out; omega
      have hv0 : 0 ≤ s[n] ∧ s[n] ≤ 4611686018427387904 := by have := HV.out; omega
      have hxv : x + s[n] ≤ 4611686018427387904 := by have := HX.out; have := HV.out; omega
      clear hv b1 b2 b3 b4 b5
      generalize s[n] = v at *
      generalize lowN n = d at *
      go_wp2_with (go_at_call 44; refine hlow.mono ?_; rintro e w' ⟨rfl, rfl⟩)
      go_round
      case rel => exact ⟨n - d, x + v, by omega, by go_num, rfl, Lib.hid (by have := HX.out; have := HV.out; omega)⟩
      case measure => simp [intOf]; omega
    · obtain rfl : n = 0 := by omega
      obtain rfl : x = pre l i := by have := HX.out; rw [pre_zero] at this; omega
      clear HX
      go_wp2
      go_ret2
      exact ⟨rfl, rfl⟩
end Go.Proofs.Ytfkjnepafgehiaa
