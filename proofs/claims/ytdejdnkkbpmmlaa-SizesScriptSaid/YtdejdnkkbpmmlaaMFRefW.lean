/- Walks of Check, and of the reference's Check, Sum and Find, over a list that is read. -/
import Derived.Test.YtdejdnkkbpmmlaaProg
import Derived.WalkKit
import Derived.WalkSpells
import Derived.WalkLawsBesides
import Derived.Lib.Hide
import Derived.Laws.OwnMore
import Derived.Deep.AppendLies
import Derived.Deep.Draws
import Derived.Deep.QuietTactic
import Derived.BigQuiet
import Derived.StillTailTactics
import Derived.Deep.RegionHeld3
import Derived.OneCell
import Derived.Outline
import Derived.IntWalk
namespace Go.Proofs.Ytdejdnkkbpmmlaa

/-- the lowest bit of a number that is set -/
def lowN (k : Nat) : Nat := if k = 0 then 0 else if k % 2 = 1 then 1 else 2 * lowN (k / 2)
termination_by k
decreasing_by omega

theorem lowN_zero : lowN 0 = 0 := by unfold lowN; simp
theorem lowN_odd (a : Nat) : lowN (2 * a + 1) = 1 := by unfold lowN; rw [if_neg (by omega), if_pos (by omega)]
theorem lowN_dbl (a : Nat) : lowN (2 * a) = 2 * lowN a := by
  rcases Nat.eq_zero_or_pos a with h | h
  · subst h; simp [lowN_zero]
  · rw [lowN, if_neg (by omega), if_neg (by omega), Nat.mul_div_cancel_left a (by omega)]
theorem lowN_mul (c m : Nat) : lowN (c * 2 ^ m) = 2 ^ m * lowN c := by
  induction m with
  | zero => simp
  | succ m ih =>
    rw [show c * 2 ^ (m + 1) = 2 * (c * 2 ^ m) from by rw [Nat.pow_succ]; ac_rfl, lowN_dbl, ih, Nat.pow_succ]
    ac_rfl
theorem lowN_form (a j : Nat) : lowN ((2 * a + 1) * 2 ^ j) = 2 ^ j := by rw [lowN_mul, lowN_odd, Nat.mul_one]
theorem form (k : Nat) (h : 0 < k) : ∃ a j, k = (2 * a + 1) * 2 ^ j := by
  induction k using Nat.strongRecOn with
  | ind k ih =>
    by_cases ho : k % 2 = 1
    · exact ⟨k / 2, 0, by simp; omega⟩
    · obtain ⟨a, j, e⟩ := ih (k / 2) (by omega) (by omega)
      refine ⟨a, j + 1, ?_⟩
      have hk : k = 2 * (k / 2) := by omega
      rw [hk, e, Nat.pow_succ]
      ac_rfl
theorem lowN_pos {k : Nat} (h : 0 < k) : 0 < lowN k := by
  obtain ⟨a, j, rfl⟩ := form k h
  rw [lowN_form]
  exact Nat.pos_of_ne_zero (by simp)
theorem lowN_le (k : Nat) : lowN k ≤ k := by
  rcases Nat.eq_zero_or_pos k with h | h
  · subst h; simp [lowN_zero]
  · obtain ⟨a, j, rfl⟩ := form k h
    rw [lowN_form]
    exact Nat.le_mul_of_pos_left _ (by omega)
theorem low_add {c j r : Nat} (h0 : 0 < r) (h1 : r < 2 ^ j) : lowN (c * 2 ^ j + r) = lowN r := by
  obtain ⟨b, i, rfl⟩ := form r h0
  have hij : i < j := by
    have h2 : 2 ^ i ≤ (2 * b + 1) * 2 ^ i := Nat.le_mul_of_pos_left _ (by omega)
    exact (Nat.pow_lt_pow_iff_right (by omega : 1 < 2)).1 (Nat.lt_of_le_of_lt h2 h1)
  obtain ⟨d, rfl⟩ : ∃ d, j = i + 1 + d := ⟨j - i - 1, by omega⟩
  have e : c * 2 ^ (i + 1 + d) + (2 * b + 1) * 2 ^ i = (2 * (c * 2 ^ d + b) + 1) * 2 ^ i := by
    rw [Nat.pow_add, Nat.pow_succ, Nat.add_mul, Nat.add_mul, Nat.mul_add, Nat.add_mul]
    have : c * (2 ^ i * 2 * 2 ^ d) = 2 * (c * 2 ^ d) * 2 ^ i := by ac_rfl
    omega
  rw [e, lowN_form, lowN_form]
/-- between a number and its follower no number reaches below it -/
theorem low_between {k m : Nat} (h0 : 0 < k) (h1 : k < m) (h2 : m < k + lowN k) : k ≤ m - lowN m := by
  obtain ⟨a, j, rfl⟩ := form k h0
  rw [lowN_form] at h2
  obtain ⟨r, rfl⟩ : ∃ r, m = (2 * a + 1) * 2 ^ j + r := ⟨m - (2 * a + 1) * 2 ^ j, by omega⟩
  rw [low_add (by omega) (by omega)]
  have := lowN_le r
  omega
/-- the follower begins where the number begins, or ahead of it -/
theorem low_up {k : Nat} (h0 : 0 < k) : 2 * lowN k ≤ lowN (k + lowN k) := by
  obtain ⟨a, j, rfl⟩ := form k h0
  rw [lowN_form]
  have e : (2 * a + 1) * 2 ^ j + 2 ^ j = (a + 1) * 2 ^ (j + 1) := by
    rw [Nat.add_mul, Nat.add_mul, Nat.pow_succ]
    have : a * (2 ^ j * 2) = 2 * a * 2 ^ j := by ac_rfl
    omega
  rw [e, lowN_mul, Nat.pow_succ]
  have := lowN_pos (k := a + 1) (by omega)
  have h := Nat.le_mul_of_pos_right (2 ^ j * 2) this
  omega
/-- a number behind the begin of another one, and ahead of it, begins there or later -/
theorem low_down {k m : Nat} (h1 : m - lowN m < k) (h2 : k < m) : m - lowN m ≤ k - lowN k := by
  obtain ⟨a, j, rfl⟩ := form m (by omega)
  rw [lowN_form] at h1 ⊢
  have e : (2 * a + 1) * 2 ^ j - 2 ^ j = 2 * a * 2 ^ j := by rw [Nat.add_mul]; omega
  rw [e] at h1 ⊢
  obtain ⟨r, rfl⟩ : ∃ r, k = 2 * a * 2 ^ j + r := ⟨k - 2 * a * 2 ^ j, by omega⟩
  rw [low_add (by omega) (by rw [Nat.add_mul] at h2; omega)]
  have := lowN_le r
  omega
/-- the next step of the descent -/
theorem low_step {i j : Nat} (h : i % 2 ^ (j + 1) = 0) : lowN (i + 2 ^ j) = 2 ^ j ∧ (i + 2 ^ j) % 2 ^ j = 0 ∧ i % 2 ^ j = 0 := by
  obtain ⟨c, rfl⟩ : ∃ c, i = 2 ^ (j + 1) * c := ⟨i / 2 ^ (j + 1), by have := Nat.div_add_mod i (2 ^ (j + 1)); omega⟩
  have e : 2 ^ (j + 1) * c = 2 * c * 2 ^ j := by rw [Nat.pow_succ]; ac_rfl
  have e2 : 2 * c * 2 ^ j + 2 ^ j = (2 * c + 1) * 2 ^ j := by rw [Nat.add_mul]; omega
  rw [e, e2, lowN_form]
  exact ⟨rfl, Nat.mul_mod_left _ _, Nat.mul_mod_left _ _⟩

/-- the sum of the first k sizes -/
def pre (l : List Int) (k : Nat) : Int := (l.take k).sum
theorem pre_zero (l : List Int) : pre l 0 = 0 := by simp [pre]
theorem pre_succ {l : List Int} {k : Nat} (h : k < l.length) : pre l (k + 1) = pre l k + l[k] := by
  unfold pre
  rw [List.take_succ_eq_append_getElem h, List.sum_append]
  simp
theorem pre_ge {l : List Int} {k : Nat} (h : l.length ≤ k) : pre l k = pre l l.length := by
  unfold pre; rw [List.take_of_length_le h, List.take_of_length_le (Nat.le_refl _)]
theorem pre_cons (x : Int) (l : List Int) (k : Nat) : pre (x :: l) (k + 1) = x + pre l k := by simp [pre]
theorem pre_set {l : List Int} {i : Nat} (hi : i < l.length) (c : Int) (k : Nat) : pre (l.set i (l[i] + c)) k = pre l k + if i < k then c else 0 := by
  induction l generalizing i k with
  | nil => simp at hi
  | cons x r ih =>
    cases k with
    | zero => simp [pre_zero]
    | succ k =>
      cases i with
      | zero => simp [pre_cons]; omega
      | succ i =>
        have h' : i < r.length := by simpa using hi
        rw [List.set_cons_succ, pre_cons, pre_cons]
        have := ih h' k
        simp only [List.getElem_cons_succ, this]
        by_cases h : i < k
        · rw [if_pos h, if_pos (by omega)]; omega
        · rw [if_neg h, if_neg (by omega)]; omega

/-- A list of sizes that is valid. -/
structure Vd (l : List Int) : Prop where
  len : l.length ≤ 4096
  each : ∀ k (h : k < l.length), 0 ≤ l[k] ∧ l[k] ≤ 2305843009213693952
  sum : pre l l.length ≤ 4611686018427387904

theorem pre_mono {l : List Int} (hn : ∀ k (h : k < l.length), 0 ≤ l[k]) {a b : Nat} (h : a ≤ b) : pre l a ≤ pre l b := by
  induction b with
  | zero => simp at h; subst h; exact Int.le_refl _
  | succ b ih =>
    rcases Nat.eq_or_lt_of_le h with e | e
    · subst e; exact Int.le_refl _
    · have h1 := ih (by omega)
      by_cases hb : b < l.length
      · rw [pre_succ hb]; have := hn b hb; omega
      · rw [pre_ge (k := b + 1) (by omega)]; rw [pre_ge (k := b) (by omega)] at h1; exact h1
theorem Vd.mono {l : List Int} (h : Vd l) {a b : Nat} (hab : a ≤ b) : pre l a ≤ pre l b := pre_mono (fun k hk => (h.each k hk).1) hab
theorem Vd.lo {l : List Int} (h : Vd l) (k : Nat) : 0 ≤ pre l k := by have := h.mono (Nat.zero_le k); rwa [pre_zero] at this
theorem Vd.hi {l : List Int} (h : Vd l) (k : Nat) : pre l k ≤ 4611686018427387904 := by
  by_cases hk : k ≤ l.length
  · exact Int.le_trans (h.mono hk) h.sum
  · rw [pre_ge (by omega)]; exact h.sum

/-- what the sum k of a tree contains -/
def fen (l : List Int) (k : Nat) : Int := pre l k - pre l (k - lowN k)
theorem Vd.fen {l : List Int} (h : Vd l) (k : Nat) : 0 ≤ fen l k ∧ fen l k ≤ 4611686018427387904 := by
  unfold Ytdejdnkkbpmmlaa.fen
  have a := h.mono (a := k - lowN k) (b := k) (by omega)
  have b := h.lo (k - lowN k)
  have c := h.hi k
  omega

/-- The sums s are those of l, and the change c of the size i has come into those below k. -/
structure FenP (l s : List Int) (i : Nat) (c : Int) (k : Nat) : Prop where
  len : s.length = l.length + 1
  at_ : ∀ m (h : m < s.length), 0 < m → s[m] = fen l m + if m - lowN m ≤ i ∧ i < m ∧ m < k then c else 0
/-- The sums of a tree. -/
structure Fen (l s : List Int) : Prop where
  len : s.length = l.length + 1
  at_ : ∀ m (h : m < s.length), 0 < m → s[m] = fen l m

theorem Fen.start {l s : List Int} (h : Fen l s) (i : Nat) (c : Int) : FenP l s i c (i + 1) :=
  ⟨h.len, fun m hm h0 => by rw [h.at_ m hm h0, if_neg (by omega)]; omega⟩
theorem fen_set {l : List Int} {i : Nat} (hi : i < l.length) (c : Int) (m : Nat) : fen (l.set i (l[i] + c)) m = fen l m + if m - lowN m ≤ i ∧ i < m then c else 0 := by
  unfold fen
  rw [pre_set hi, pre_set hi]
  by_cases h1 : i < m
  · by_cases h2 : m - lowN m ≤ i
    · rw [if_pos h1, if_neg (by omega), if_pos ⟨h2, h1⟩]; omega
    · rw [if_pos h1, if_pos (by omega), if_neg (by omega)]; omega
  · rw [if_neg h1, if_neg (by omega), if_neg (by omega)]; omega
theorem FenP.stop {l s : List Int} {i : Nat} {c : Int} {k : Nat} (h : FenP l s i c k) (hi : i < l.length) (hk : l.length < k) : Fen (l.set i (l[i] + c)) s :=
  ⟨by rw [h.len]; simp, fun m hm h0 => by
    have hl := h.len
    rw [h.at_ m hm h0, fen_set hi]
    by_cases h1 : m - lowN m ≤ i ∧ i < m
    · rw [if_pos h1, if_pos ⟨h1.1, h1.2, by omega⟩]
    · rw [if_neg h1, if_neg (fun x => h1 ⟨x.1, x.2.1⟩)]⟩
/-- One round: the sum k contains the size i; the next one that does is k + lowN k. -/
theorem FenP.next {l s : List Int} {i : Nat} {c : Int} {k : Nat} (h : FenP l s i c k) (h1 : k - lowN k ≤ i) (h2 : i < k) (hk : k < s.length) :
    s[k] = fen l k ∧ FenP l (s.set k (s[k] + c)) i c (k + lowN k) ∧ (k + lowN k) - lowN (k + lowN k) ≤ i ∧ i < k + lowN k := by
  have e : s[k] = fen l k := by
    rw [h.at_ k hk (by omega), if_neg (by omega)]; omega
  refine ⟨e, ⟨by rw [List.length_set]; exact h.len, fun m hm h0 => ?_⟩, ?_, by omega⟩
  · have hm' : m < s.length := by simpa using hm
    rw [List.getElem_set]
    by_cases hkm : k = m
    · subst hkm
      rw [if_pos rfl, e, if_pos ⟨h1, h2, by have := lowN_pos (k := k) (by omega); omega⟩]
    · rw [if_neg hkm, h.at_ m hm' h0]
      congr 1
      by_cases hc : m - lowN m ≤ i ∧ i < m ∧ m < k
      · rw [if_pos hc, if_pos ⟨hc.1, hc.2.1, by omega⟩]
      · rw [if_neg hc, if_neg ?_]
        rintro ⟨a, b, d⟩
        have h3 : k < m := by
          rcases Nat.lt_or_ge m k with x | x
          · exact absurd ⟨a, b, x⟩ hc
          · omega
        have := low_between (by omega) h3 d
        omega
  · have := low_up (k := k) (by omega)
    have := lowN_pos (k := k) (by omega)
    omega

theorem Fen.zeros (n : Nat) : Fen (List.replicate n 0) (List.replicate (n + 1) 0) := by
  have hp : ∀ k, pre (List.replicate n (0 : Int)) k = 0 := fun k => by unfold pre; simp
  exact ⟨by simp, fun m hm h0 => by unfold fen; rw [hp, hp]; simp⟩
/-- the first j sizes, and zeros -/
def part (l : List Int) (j : Nat) : List Int := l.take j ++ List.replicate (l.length - j) 0
theorem part_zero (l : List Int) : part l 0 = List.replicate l.length 0 := by simp [part]
theorem part_all (l : List Int) : part l l.length = l := by simp [part]
theorem part_len (l : List Int) (j : Nat) (h : j ≤ l.length) : (part l j).length = l.length := by simp [part]; omega
theorem part_get? {l : List Int} {j k : Nat} (h : j ≤ l.length) (hk : k < l.length) : (part l j)[k]? = if k < j then l[k]? else some 0 := by
  unfold part
  have e : (l.take j).length = j := by simp; omega
  rw [List.getElem?_append, e]
  by_cases h1 : k < j
  · rw [if_pos h1, if_pos h1, List.getElem?_take, if_pos h1]
  · rw [if_neg h1, if_neg h1, List.getElem?_replicate, if_pos (by omega)]
theorem part_at {l : List Int} {j : Nat} (h : j < l.length) (h' : j < (part l j).length) : (part l j)[j]'h' = 0 := by
  have := part_get? (l := l) (j := j) (k := j) (by omega) h
  rw [if_neg (by omega), List.getElem?_eq_getElem h'] at this
  injection this
theorem part_succ {l : List Int} {j : Nat} (h : j < l.length) (h' : j < (part l j).length) : (part l j).set j ((part l j)[j]'h' + l[j]) = part l (j + 1) := by
  rw [part_at h]
  apply List.ext_getElem?
  intro k
  have e1 := part_len l j (by omega)
  have e2 := part_len l (j + 1) (by omega)
  by_cases hk : k < l.length
  · rw [part_get? (by omega) hk, List.getElem?_set]
    by_cases hjk : j = k
    · subst hjk
      rw [if_pos rfl, if_pos h', if_pos (by omega), List.getElem?_eq_getElem h]; simp
    · rw [if_neg hjk, part_get? (by omega) hk]
      by_cases h1 : k < j
      · rw [if_pos h1, if_pos (by omega)]
      · rw [if_neg h1, if_neg (by omega)]
  · rw [List.getElem?_eq_none (by simp; omega), List.getElem?_eq_none (by omega)]
theorem pre_part (l : List Int) (j k : Nat) : pre (part l j) k = pre l (min j k) := by
  unfold pre part
  rw [List.take_append, List.sum_append, List.take_take]
  simp [List.take_replicate, Nat.min_comm]
theorem part_vd {l : List Int} (h : Vd l) (j : Nat) (hj : j ≤ l.length) : Vd (part l j) :=
  ⟨by rw [part_len l j hj]; exact h.len, fun k hk => by
    have hk' : k < l.length := by rwa [part_len l j hj] at hk
    have := part_get? hj hk'
    rw [List.getElem?_eq_getElem hk] at this
    by_cases h1 : k < j
    · rw [if_pos h1, List.getElem?_eq_getElem hk'] at this
      injection this with this
      rw [this]; exact h.each k hk'
    · rw [if_neg h1] at this
      injection this with this
      rw [this]; omega,
   by rw [pre_part l j _]; exact h.hi _⟩

/-- the place with an offset -/
structure Place (l : List Int) (x : Int) (i : Nat) : Prop where
  lt : i < l.length
  lo : pre l i ≤ x
  hi : x < pre l (i + 1)
theorem Place.uniq {l : List Int} (hn : ∀ k (h : k < l.length), 0 ≤ l[k]) {x : Int} {i j : Nat} (a : Place l x i) (b : Place l x j) : i = j := by
  rcases Nat.lt_trichotomy i j with h | h | h
  · have := pre_mono hn (show i + 1 ≤ j from h); have := a.hi; have := b.lo; omega
  · exact h
  · have := pre_mono hn (show j + 1 ≤ i from h); have := b.hi; have := a.lo; omega
end Go.Proofs.Ytdejdnkkbpmmlaa

namespace Go.Proofs.Ytdejdnkkbpmmlaa
open Go.RowKit

theorem ret_int {k : IntKind} {a b : Int} (h : a = b) : Ending.returned (.int k a) = .returned (.int k b) := by rw [h]
theorem ret_bool {a b : Bool} (h : a = b) : Ending.returned (.bool a) = .returned (.bool b) := by rw [h]

theorem and_compl (n : Nat) : ∀ k, k < 2 ^ n → k &&& (2 ^ n - 1 - k) = 0 := by
  induction n with
  | zero => intro k hk; simp at hk; subst hk; simp
  | succ n ih =>
    intro k hk
    rw [Nat.pow_succ] at hk ⊢
    have h1 := Nat.and_div_two_pow (a := k) (b := 2 ^ n * 2 - 1 - k) (n := 1)
    have h2 := Nat.and_mod_two_eq_one (a := k) (b := 2 ^ n * 2 - 1 - k)
    have e : (2 ^ n * 2 - 1 - k) / 2 = 2 ^ n - 1 - k / 2 := by omega
    simp only [Nat.pow_one] at h1
    rw [e, ih (k / 2) (by omega)] at h1
    omega
theorem and_neg (n : Nat) : ∀ k, 0 < k → k < 2 ^ n → k &&& (2 ^ n - k) = lowN k := by
  induction n with
  | zero => intro k h0 hk; simp at hk; omega
  | succ n ih =>
    intro k h0 hk
    rw [Nat.pow_succ] at hk ⊢
    have h1 := Nat.and_div_two_pow (a := k) (b := 2 ^ n * 2 - k) (n := 1)
    have h2 := Nat.and_mod_two_eq_one (a := k) (b := 2 ^ n * 2 - k)
    simp only [Nat.pow_one] at h1
    by_cases ho : k % 2 = 1
    · have e : (2 ^ n * 2 - k) / 2 = 2 ^ n - 1 - k / 2 := by omega
      rw [e, and_compl n (k / 2) (by omega)] at h1
      rw [lowN, if_neg (by omega), if_pos ho]
      omega
    · have e : (2 ^ n * 2 - k) / 2 = 2 ^ n - k / 2 := by omega
      rw [e, ih (k / 2) (by omega) (by omega)] at h1
      rw [lowN, if_neg (by omega), if_neg ho]
      omega
theorem bits_low (k : Nat) (h : k ≤ 100000) : bits BinOp.and IntKind.i64 (k : Int) (-(k : Int)) = (lowN k : Int) := by
  show IntKind.i64.wrap ((BitVec.ofInt 64 (k : Int) &&& BitVec.ofInt 64 (-(k : Int))).toNat : Int) = _
  rw [BitVec.toNat_and]
  have e1 : (BitVec.ofInt 64 (k : Int)).toNat = k := by
    rw [BitVec.toNat_ofInt]; omega
  rcases Nat.eq_zero_or_pos k with h0 | h0
  · subst h0; simp [lowN_zero]; rfl
  · have e2 : (BitVec.ofInt 64 (-(k : Int))).toNat = 2 ^ 64 - k := by
      rw [BitVec.toNat_ofInt]; omega
    rw [e1, e2, and_neg 64 k h0 (by omega)]
    have := lowN_le k
    rw [IntKind.wrap_i64]; omega

theorem isHeight_any (x : Int) (w : World) : Calls Try.prog 64 #[.int .i64 x] w fun e w' => e = .returned (.bool (decide (0 ≤ x ∧ x ≤ 2305843009213693952))) ∧ w = w' := by
  go_enter Try.func64, Try.ntmps64
  go_wp2
  all_goals
    go_ret
    exact ⟨ret_bool (by simp; omega), rfl⟩

/-- the cells of a list of integers -/
def ints (zs : List Int) : Array Value := (zs.map (Value.int .i64)).toArray

end Go.Proofs.Ytdejdnkkbpmmlaa

namespace Go.Proofs.Ytdejdnkkbpmmlaa
open Go.RowKit

/-- The slice value '.slice A n c' reads as the list of integers zs, all of it below block B. -/
def RdI (w : World) (B : Nat) (A : Option Addr) (zs : List Int) : Prop :=
  ∀ k (h : k < zs.length), ∃ b o, A = some ⟨b, o, none⟩ ∧ b < B ∧ w.cell? ⟨b, o + k, none⟩ = some (.int .i64 zs[k])
section
variable {w w' : World} {B B' : Nat} {A : Option Addr} {zs : List Int}
theorem RdI.nil : RdI w B A [] := fun k h => absurd h (by simp)
theorem RdI.below (h : RdI w B A zs) (hb : Below B w w') : RdI w' B A zs := fun k hl => by
  obtain ⟨b, o, e, hl2, h1⟩ := h k hl
  exact ⟨b, o, e, hl2, (hb.cell (p := ⟨b, o + k, none⟩) hl2).trans h1⟩
theorem RdI.more (h : RdI w B A zs) (hB : B ≤ B') : RdI w B' A zs := fun k hl => by
  obtain ⟨b, o, e, hl2, h1⟩ := h k hl
  exact ⟨b, o, e, by omega, h1⟩
theorem RdI.next (h : RdI w w.heap.size A zs) (hb : Below w.heap.size w w') : RdI w' w'.heap.size A zs := (h.below hb).more hb.size
theorem RdI.drewN (h : RdI w B A zs) (n : Nat) : RdI (w.drewN n) B A zs := h
end

/-- what is wrong with the rest of a list, behind the sum acc -/
def chkF (acc : Int) : List Int → Int
  | [] => 0
  | x :: r => if x < 0 ∨ 2305843009213693952 < x then 12 else if 4611686018427387904 < acc + x then 13 else chkF (acc + x) r
/-- what is wrong with a list of sizes -/
def chk (l : List Int) : Int := if 4096 < l.length then 3 else chkF 0 l
theorem chkF_drop {l : List Int} {k : Nat} (acc : Int) (h : k < l.length) : chkF acc (l.drop k) = if l[k] < 0 ∨ 2305843009213693952 < l[k] then 12 else if 4611686018427387904 < acc + l[k] then 13 else chkF (acc + l[k]) (l.drop (k + 1)) := by
  rw [List.drop_eq_getElem_cons h, chkF]
theorem chkF_end {l : List Int} {k : Nat} (acc : Int) (h : l.length ≤ k) : chkF acc (l.drop k) = 0 := by
  rw [List.drop_of_length_le h, chkF]

set_option maxHeartbeats 1000000 in
theorem check_any (A : Option Addr) (c : Nat) (zs : List Int) (w : World) (hr : RdI w w.heap.size A zs) (hl : zs.length ≤ 9223372036854775807) :
    Calls Try.prog 50 #[.slice A zs.length c] w fun e w' => e = .returned (.int .i64 (chk zs)) ∧ w = w' := by
  unfold chk
  by_cases h4 : 4096 < zs.length
  · rw [if_pos h4]
    go_enter Try.func50, Try.ntmps50
    go_wp2
    go_ret
    exact ⟨rfl, rfl⟩
  · rw [if_neg h4]
    have HR := Lib.hid hr
    clear hr
    go_enter Try.func50, Try.ntmps50
    go_wp2_with fail
    go_loop [3, 11] (fun a k => ∃ (n : Nat) (x : Int), n ≤ zs.length ∧ k = .int .i64 n ∧ a = .int .i64 x ∧ 0 ≤ x ∧ x ≤ 4611686018427387904 ∧ Hid (chkF 0 zs = chkF x (zs.drop n))) (fun _ k => zs.length - (intOf k).toNat)
    case atStart => exact ⟨0, 0, Nat.zero_le _, rfl, rfl, by omega, by omega, Lib.hid rfl⟩
    case round =>
      obtain ⟨n, x, hn, rfl, rfl, hx0, hx1, HX⟩ := hrel
      by_cases hlt : n < zs.length
      · obtain ⟨b, o, rfl, hb, hc⟩ := HR.out n hlt
        have HD := Lib.hid (chkF_drop x hlt)
        have hh : Hid (∀ W, Calls Try.prog 64 #[.int .i64 zs[n]] W fun e w' => e = .returned (.bool (decide (0 ≤ zs[n] ∧ zs[n] ≤ 2305843009213693952))) ∧ W = w') := Lib.hid (fun W => isHeight_any _ W)
        generalize zs[n] = v at *
        by_cases hv : 0 ≤ v ∧ v ≤ 2305843009213693952
        · have hd : decide (0 ≤ v ∧ v ≤ 2305843009213693952) = true := by simpa using hv
          rw [hd] at hh
          obtain ⟨hv0, hv1⟩ := hv
          clear hd
          by_cases hs : 4611686018427387904 < x + v
          · go_wp2_with (go_at_call 64; refine (hh.out _).mono ?_; rintro e w' ⟨rfl, rfl⟩)
            go_ret
            exact ⟨ret_int (by rw [HX.out, HD.out, if_neg (by omega), if_pos hs]), rfl⟩
          · go_wp2_with (go_at_call 64; refine (hh.out _).mono ?_; rintro e w' ⟨rfl, rfl⟩)
            go_round
            case rel => exact ⟨n + 1, x + v, by omega, by go_num, rfl, by omega, by omega, Lib.hid (by rw [HX.out, HD.out, if_neg (by omega), if_neg (by omega)])⟩
            case measure => simp [intOf]; omega
        · have hd : decide (0 ≤ v ∧ v ≤ 2305843009213693952) = false := by simpa using hv
          rw [hd] at hh
          have HV := Lib.hid hv
          clear hd hv
          go_wp2_with (go_at_call 64; refine (hh.out _).mono ?_; rintro e w' ⟨rfl, rfl⟩)
          go_ret
          exact ⟨ret_int (by rw [HX.out, HD.out, if_pos (by have := HV.out; omega)]), rfl⟩
      · go_wp2_with fail
        go_ret
        exact ⟨ret_int (by rw [HX.out, chkF_end _ (by omega)]), rfl⟩

theorem chkF_ok {l : List Int} : ∀ (k : Nat), k ≤ l.length → (chkF (pre l k) (l.drop k) = 0 ↔ ∀ n (h : n < l.length), k ≤ n → 0 ≤ l[n] ∧ l[n] ≤ 2305843009213693952 ∧ pre l (n + 1) ≤ 4611686018427387904) := by
  have : ∀ d k, k + d = l.length → (chkF (pre l k) (l.drop k) = 0 ↔ ∀ n (h : n < l.length), k ≤ n → 0 ≤ l[n] ∧ l[n] ≤ 2305843009213693952 ∧ pre l (n + 1) ≤ 4611686018427387904) := by
    intro d
    induction d with
    | zero => intro k hk; rw [chkF_end _ (by omega)]; exact ⟨fun _ n h hn => by omega, fun _ => rfl⟩
    | succ d ih =>
      intro k hk
      have hlt : k < l.length := by omega
      rw [chkF_drop _ hlt, ← pre_succ hlt]
      have := ih (k + 1) (by omega)
      constructor
      · intro h n hn hkn
        by_cases h1 : l[k] < 0 ∨ 2305843009213693952 < l[k]
        · rw [if_pos h1] at h; omega
        · rw [if_neg h1] at h
          by_cases h2 : 4611686018427387904 < pre l (k + 1)
          · rw [if_pos h2] at h; omega
          · rw [if_neg h2] at h
            rcases Nat.eq_or_lt_of_le hkn with e | e
            · subst e; omega
            · exact this.1 h n hn e
      · intro h
        have hk := h k hlt (Nat.le_refl _)
        rw [if_neg (by omega), if_neg (by omega)]
        exact this.2 fun n hn hkn => h n hn (by omega)
  intro k hk
  exact this (l.length - k) k (by omega)
theorem chk_zero {l : List Int} : chk l = 0 ↔ Vd l := by
  unfold chk
  constructor
  · intro h
    by_cases h4 : 4096 < l.length
    · rw [if_pos h4] at h; omega
    · rw [if_neg h4] at h
      have h0 := (chkF_ok (l := l) 0 (by omega)).1 (by rw [pre_zero]; simpa using h)
      refine ⟨by omega, fun k hk => ⟨(h0 k hk (by omega)).1, (h0 k hk (by omega)).2.1⟩, ?_⟩
      rcases Nat.eq_zero_or_pos l.length with e | e
      · rw [e, pre_zero]; omega
      · have := (h0 (l.length - 1) (by omega) (by omega)).2.2
        rwa [show l.length - 1 + 1 = l.length from by omega] at this
  · intro h
    rw [if_neg (by have := h.len; omega)]
    have h0 := (chkF_ok (l := l) 0 (by omega)).2 fun n hn _ => ⟨(h.each n hn).1, (h.each n hn).2, h.hi _⟩
    rw [pre_zero] at h0
    simpa using h0

end Go.Proofs.Ytdejdnkkbpmmlaa
