/- Words of 64 bits that hold a list of bits: plain mathematics, no program. -/
import Derived.Lib.TrailingZeros
namespace Go.Proofs.YtbdjpacmbaoaeaaDoor

/-- the number whose bits are a list's -/
def ofBits : List Bool → Nat
  | [] => 0
  | b :: l => b.toNat + 2 * ofBits l
theorem ofBits_lt : ∀ l : List Bool, ofBits l < 2 ^ l.length
  | [] => by simp [ofBits]
  | b :: l => by
    have h := ofBits_lt l
    have hb : b.toNat ≤ 1 := by cases b <;> simp
    simp only [ofBits, List.length_cons, Nat.pow_succ]
    omega
theorem ofBits_testBit : ∀ (l : List Bool) (j : Nat), (ofBits l).testBit j = l.getD j false
  | [], j => by simp [ofBits]
  | b :: l, 0 => by
    rw [Nat.testBit_zero]
    cases b <;> simp [ofBits]
  | b :: l, j + 1 => by
    rw [Nat.testBit_succ]
    have e : ofBits (b :: l) / 2 = ofBits l := by
      simp only [ofBits]
      cases b <;> simp <;> omega
    rw [e, ofBits_testBit l j]
    simp
theorem nat_ext64 {x y : Nat} (hx : x < 18446744073709551616) (hy : y < 18446744073709551616) (h : ∀ j, j < 64 → x.testBit j = y.testBit j) : x = y := by
  apply Nat.eq_of_testBit_eq
  intro j
  by_cases hj : j < 64
  · exact h j hj
  · have hp : (2 : Nat) ^ 64 ≤ 2 ^ j := Nat.pow_le_pow_right (by decide) (by omega)
    rw [Nat.testBit_lt_two_pow (by omega), Nat.testBit_lt_two_pow (by omega)]

/-- the i-th word of a list of bits -/
def word (l : List Bool) (i : Nat) : Nat := ofBits ((l.drop (64 * i)).take 64)
theorem word_lt (l : List Bool) (i : Nat) : word l i < 18446744073709551616 := by
  have h := ofBits_lt ((l.drop (64 * i)).take 64)
  have h2 : 2 ^ ((l.drop (64 * i)).take 64).length ≤ 2 ^ 64 := Nat.pow_le_pow_right (by decide) (by simp; omega)
  unfold word
  omega
theorem word_testBit (l : List Bool) (i j : Nat) (hj : j < 64) : (word l i).testBit j = l.getD (64 * i + j) false := by
  unfold word
  rw [ofBits_testBit]
  simp only [List.getD_eq_getElem?_getD, List.getElem?_take, if_pos hj, List.getElem?_drop]
theorem word_none (l : List Bool) (i : Nat) (h : l.length ≤ 64 * i) : word l i = 0 := by
  unfold word
  rw [List.drop_eq_nil_of_le h]
  rfl
/-- all words of a list of at most 4096 bits -/
def words (l : List Bool) : List Nat := (List.range 64).map (word l)
theorem words_len (l : List Bool) : (words l).length = 64 := by simp [words]
theorem words_get (l : List Bool) (i : Nat) (h : i < 64) : (words l).getD i 0 = word l i := by
  simp [words, List.getD_eq_getElem?_getD, h]
theorem words_lt (l : List Bool) (i : Nat) : (words l).getD i 0 < 18446744073709551616 := by
  by_cases h : i < 64
  · rw [words_get l i h]; exact word_lt l i
  · simp [words, List.getD_eq_getElem?_getD, h]
theorem words_ext {ws : List Nat} {l : List Bool} (hn : ws.length = 64) (hlt : ∀ i, i < 64 → ws.getD i 0 < 18446744073709551616)
    (h : ∀ i, i < 64 → ∀ j, j < 64 → (ws.getD i 0).testBit j = l.getD (64 * i + j) false) : ws = words l := by
  apply List.ext_getElem?
  intro i
  by_cases hi : i < 64
  · have e : ws.getD i 0 = word l i := nat_ext64 (hlt i hi) (word_lt l i) (fun j hj => by rw [h i hi j hj, word_testBit l i j hj])
    have e1 : ws[i]? = some (ws.getD i 0) := by simp [List.getD_eq_getElem?_getD, List.getElem?_eq_getElem (show i < ws.length by omega)]
    rw [e1, e]
    simp [words, hi]
  · rw [List.getElem?_eq_none (by omega), List.getElem?_eq_none (by rw [words_len]; omega)]

/-- how many bits are true -/
abbrev cnt (l : List Bool) : Nat := l.count true
theorem cnt_le (l : List Bool) : cnt l ≤ l.length := List.count_le_length
theorem cnt_take_add (l : List Bool) (a b : Nat) : cnt (l.take (a + b)) = cnt (l.take a) + cnt ((l.drop a).take b) := by
  unfold cnt
  rw [List.take_add, List.count_append]
theorem cnt_take_le (l : List Bool) (a : Nat) : cnt (l.take a) ≤ cnt l := by
  have h := List.take_append_drop a l
  have : cnt l = cnt (l.take a) + cnt (l.drop a) := by
    unfold cnt; rw [← List.count_append, h]
  omega
theorem cnt_take_mono (l : List Bool) {a b : Nat} (h : a ≤ b) : cnt (l.take a) ≤ cnt (l.take b) := by
  have := cnt_take_le (l.take b) a
  rwa [List.take_take, Nat.min_eq_left h] at this
theorem cnt_take_all (l : List Bool) {a : Nat} (h : l.length ≤ a) : cnt (l.take a) = cnt l := by rw [List.take_of_length_le h]
theorem cnt_take_succ (l : List Bool) (a : Nat) (h : a < l.length) : cnt (l.take (a + 1)) = cnt (l.take a) + (l[a]).toNat := by
  unfold cnt
  rw [List.take_add_one, List.count_append, List.getElem?_eq_getElem h]
  cases l[a] <;> simp

/-- how many of the first f bits of a number are true -/
def ones : Nat → Nat → Nat
  | 0, _ => 0
  | f + 1, x => x % 2 + ones f (x / 2)
theorem ones_zero : ∀ f, ones f 0 = 0
  | 0 => rfl
  | f + 1 => by simp [ones, ones_zero f]
theorem ones_ofBits : ∀ (f : Nat) (l : List Bool), l.length ≤ f → ones f (ofBits l) = cnt l
  | f, [], _ => by rw [ofBits, ones_zero]; rfl
  | 0, b :: l, h => by simp at h
  | f + 1, b :: l, h => by
    have ih := ones_ofBits f l (by simpa using h)
    have e : ofBits (b :: l) / 2 = ofBits l := by simp only [ofBits]; cases b <;> simp <;> omega
    have e2 : ofBits (b :: l) % 2 = b.toNat := by simp only [ofBits]; cases b <;> simp <;> omega
    rw [ones, e, e2, ih]
    cases b <;> simp [cnt, Nat.add_comm]
theorem ones_split : ∀ (m f x : Nat), ones (m + f) x = ones m (x % 2 ^ m) + ones f (x / 2 ^ m)
  | 0, f, x => by simp [ones]
  | m + 1, f, x => by
    have ih := ones_split m f (x / 2)
    rw [show m + 1 + f = (m + f) + 1 by omega, ones, ones, ih]
    have e1 : x % 2 ^ (m + 1) % 2 = x % 2 := by
      rw [Nat.pow_succ, Nat.mul_comm, Nat.mod_mul_right_mod]
    have e2 : x % 2 ^ (m + 1) / 2 = x / 2 % 2 ^ m := by
      rw [Nat.pow_succ, Nat.mul_comm, Nat.mod_mul_right_div_self]
    have e3 : x / 2 / 2 ^ m = x / 2 ^ (m + 1) := by rw [Nat.div_div_eq_div_mul, Nat.pow_succ, Nat.mul_comm]
    rw [e1, e2, e3]
    omega

/-- the number whose bytes are a list's -/
def num : List Nat → Nat
  | [] => 0
  | a :: bs => a + 256 * num bs
theorem and_byte (a u m M : Nat) (ha : a < 256) (hm : m < 256) : (a + 256 * u) &&& (m + 256 * M) = (a &&& m) + 256 * (u &&& M) := by
  have h1 := Nat.and_mod_two_pow (a := a + 256 * u) (b := m + 256 * M) (n := 8)
  have h2 := Nat.and_div_two_pow (a := a + 256 * u) (b := m + 256 * M) (n := 8)
  have e1 : (a + 256 * u) % 2 ^ 8 = a := by omega
  have e2 : (m + 256 * M) % 2 ^ 8 = m := by omega
  have e3 : (a + 256 * u) / 2 ^ 8 = u := by omega
  have e4 : (m + 256 * M) / 2 ^ 8 = M := by omega
  rw [e1, e2] at h1
  rw [e3, e4] at h2
  omega
theorem byte1 : ∀ a < 256, ∀ c < 2, (a / 2 + 128 * c) &&& 85 = (a / 2) &&& 85 := by decide +kernel
theorem byte2 : ∀ a < 256, ∀ c < 4, (a / 4 + 64 * c) &&& 51 = (a / 4) &&& 51 := by decide +kernel
theorem byte3 : ∀ a < 128, ∀ c < 16, a / 16 + a + 16 * c < 256 → (a / 16 + a + 16 * c) &&& 15 = (a / 16 + a) &&& 15 := by decide +kernel
def b1 (a : Nat) : Nat := ((a / 2) &&& 85) + (a &&& 85)
def b2 (a : Nat) : Nat := ((a / 4) &&& 51) + (a &&& 51)
def b3 (a : Nat) : Nat := (a / 16 + a) &&& 15
theorem b_all : ∀ a < 256, b1 a < 256 ∧ b2 (b1 a) < 128 ∧ b2 (b1 a) % 16 ≤ 4 ∧ b2 (b1 a) / 16 ≤ 4 ∧ b3 (b2 (b1 a)) = ones 8 a ∧ ones 8 a ≤ 8 := by decide +kernel
theorem num_step1 : ∀ bs : List Nat, (∀ a ∈ bs, a < 256) → ((num bs / 2) &&& num (bs.map fun _ => 85)) + (num bs &&& num (bs.map fun _ => 85)) = num (bs.map b1)
  | [], _ => by simp [num]
  | a :: bs, h => by
    have ih := num_step1 bs (fun x hx => h x (by simp [hx]))
    have ha := h a (by simp)
    simp only [num, List.map_cons]
    have e : (a + 256 * num bs) / 2 = (a / 2 + 128 * (num bs % 2)) + 256 * (num bs / 2) := by omega
    rw [e, and_byte _ _ _ _ (by omega) (by decide), and_byte _ _ _ _ ha (by decide), byte1 a ha _ (by omega), ← ih]
    unfold b1
    omega
theorem num_step2 : ∀ bs : List Nat, (∀ a ∈ bs, a < 256) → ((num bs / 4) &&& num (bs.map fun _ => 51)) + (num bs &&& num (bs.map fun _ => 51)) = num (bs.map b2)
  | [], _ => by simp [num]
  | a :: bs, h => by
    have ih := num_step2 bs (fun x hx => h x (by simp [hx]))
    have ha := h a (by simp)
    simp only [num, List.map_cons]
    have e : (a + 256 * num bs) / 4 = (a / 4 + 64 * (num bs % 4)) + 256 * (num bs / 4) := by omega
    rw [e, and_byte _ _ _ _ (by omega) (by decide), and_byte _ _ _ _ ha (by decide), byte2 a ha _ (by omega), ← ih]
    unfold b2
    omega
theorem num_mod16 : ∀ bs : List Nat, (∀ a ∈ bs, a % 16 ≤ 4) → num bs % 16 ≤ 4
  | [], _ => by simp [num]
  | a :: bs, h => by
    have := h a (by simp)
    simp only [num]
    omega
theorem num_step3 : ∀ bs : List Nat, (∀ a ∈ bs, a < 128 ∧ a % 16 ≤ 4 ∧ a / 16 ≤ 4) → (num bs / 16 + num bs) &&& num (bs.map fun _ => 15) = num (bs.map b3)
  | [], _ => by simp [num]
  | a :: bs, h => by
    have ih := num_step3 bs (fun x hx => h x (by simp [hx]))
    have ha := h a (by simp)
    have hm := num_mod16 bs (fun x hx => (h x (by simp [hx])).2.1)
    simp only [num, List.map_cons]
    have e : (a + 256 * num bs) / 16 + (a + 256 * num bs) = (a / 16 + a + 16 * (num bs % 16)) + 256 * (num bs / 16 + num bs) := by omega
    have hlt : a / 16 + a + 16 * (num bs % 16) < 256 := by omega
    rw [e, and_byte _ _ _ _ hlt (by decide), byte3 a ha.1 _ (by omega) hlt, ih]
    rfl
theorem num_ones : ∀ bs : List Nat, (∀ a ∈ bs, a < 256) → ones (8 * bs.length) (num bs) = (bs.map (ones 8)).sum
  | [], _ => by simp [num, ones]
  | a :: bs, h => by
    have ih := num_ones bs (fun x hx => h x (by simp [hx]))
    have ha := h a (by simp)
    have e := ones_split 8 (8 * bs.length) (num (a :: bs))
    have e1 : num (a :: bs) % 2 ^ 8 = a := by simp only [num]; omega
    have e2 : num (a :: bs) / 2 ^ 8 = num bs := by simp only [num]; omega
    rw [e1, e2, ih] at e
    rw [show 8 * (a :: bs).length = 8 + 8 * bs.length by simp; omega, e]
    simp
/-- the bytes of a number -/
def bytes (x : Nat) : List Nat := [x % 256, x / 256 % 256, x / 65536 % 256, x / 16777216 % 256, x / 4294967296 % 256, x / 1099511627776 % 256, x / 281474976710656 % 256, x / 72057594037927936 % 256]
theorem num_bytes (x : Nat) (h : x < 18446744073709551616) : num (bytes x) = x := by
  simp only [num, bytes]
  omega
theorem bytes_lt (x : Nat) : ∀ a ∈ bytes x, a < 256 := by
  intro a ha
  simp only [bytes, List.mem_cons, List.not_mem_nil, or_false] at ha
  omega
def st1 (x : Nat) : Nat := ((x / 2) &&& 6148914691236517205) + (x &&& 6148914691236517205)
def st2 (x : Nat) : Nat := ((x / 4) &&& 3689348814741910323) + (x &&& 3689348814741910323)
def st3 (x : Nat) : Nat := (x / 16 + x) &&& 1085102592571150095
theorem st_num (x : Nat) (h : x < 18446744073709551616) : st1 x = num ((bytes x).map b1) ∧ st2 (st1 x) = num ((bytes x).map (b2 ∘ b1)) ∧ st3 (st2 (st1 x)) = num ((bytes x).map (ones 8)) := by
  have hb := bytes_lt x
  have h1 := num_step1 (bytes x) hb
  rw [num_bytes x h] at h1
  have e1 : num ((bytes x).map fun _ => 85) = 6148914691236517205 := by simp [bytes, num]
  rw [e1] at h1
  have h2 := num_step2 ((bytes x).map b1) (by
    intro a ha
    obtain ⟨c, hc, rfl⟩ := List.mem_map.1 ha
    exact (b_all c (hb c hc)).1)
  have e2 : num (((bytes x).map b1).map fun _ => 51) = 3689348814741910323 := by simp [bytes, num]
  rw [e2, List.map_map] at h2
  have h3 := num_step3 ((bytes x).map (b2 ∘ b1)) (by
    intro a ha
    obtain ⟨c, hc, rfl⟩ := List.mem_map.1 ha
    have := b_all c (hb c hc)
    exact ⟨this.2.1, this.2.2.1, this.2.2.2.1⟩)
  have e3 : num (((bytes x).map (b2 ∘ b1)).map fun _ => 15) = 1085102592571150095 := by simp [bytes, num]
  rw [e3, List.map_map] at h3
  have e4 : (bytes x).map (b3 ∘ (b2 ∘ b1)) = (bytes x).map (ones 8) := by
    apply List.map_congr_left
    intro a ha
    exact (b_all a (hb a ha)).2.2.2.2.1
  rw [e4] at h3
  refine ⟨h1, ?_, ?_⟩
  · unfold st2; rw [show st1 x = num ((bytes x).map b1) from h1]; exact h2
  · unfold st3; rw [show st2 (st1 x) = num ((bytes x).map (b2 ∘ b1)) by unfold st2; rw [show st1 x = num ((bytes x).map b1) from h1]; exact h2]; exact h3
/-- the last four steps over eight bytes of at most 8 -/
theorem fold8 (c0 c1 c2 c3 c4 c5 c6 c7 : Nat) (h0 : c0 ≤ 8) (h1 : c1 ≤ 8) (h2 : c2 ≤ 8) (h3 : c3 ≤ 8) (h4 : c4 ≤ 8) (h5 : c5 ≤ 8) (h6 : c6 ≤ 8) (h7 : c7 ≤ 8) :
    ∃ p q r, num [c0, c1, c2, c3, c4, c5, c6, c7] + num [c0, c1, c2, c3, c4, c5, c6, c7] / 256 = p ∧ p + p / 65536 = q ∧ q + q / 4294967296 = r ∧ p < 9223372036854775808 ∧ q < 9223372036854775808 ∧ r < 9223372036854775808 ∧ r % 128 = c0 + c1 + c2 + c3 + c4 + c5 + c6 + c7 := by
  refine ⟨_, _, _, rfl, rfl, rfl, ?_⟩
  have e0 : num [c0, c1, c2, c3, c4, c5, c6, c7] = num [c0, c1, c2, c3, c4, c5, c6, c7] := rfl
  have e1 : num [c0, c1, c2, c3, c4, c5, c6, c7] / 256 = num [c1, c2, c3, c4, c5, c6, c7] := by simp only [num]; omega
  have e2 : num [c0, c1, c2, c3, c4, c5, c6, c7] + num [c1, c2, c3, c4, c5, c6, c7] = num [c0 + c1, c1 + c2, c2 + c3, c3 + c4, c4 + c5, c5 + c6, c6 + c7, c7] := by simp only [num]; omega
  rw [e1, e2]
  have e3 : num [c0 + c1, c1 + c2, c2 + c3, c3 + c4, c4 + c5, c5 + c6, c6 + c7, c7] / 65536 = num [c2 + c3, c3 + c4, c4 + c5, c5 + c6, c6 + c7, c7] := by simp only [num]; omega
  have e4 : num [c0 + c1, c1 + c2, c2 + c3, c3 + c4, c4 + c5, c5 + c6, c6 + c7, c7] + num [c2 + c3, c3 + c4, c4 + c5, c5 + c6, c6 + c7, c7] = num [c0 + c1 + c2 + c3, c1 + c2 + c3 + c4, c2 + c3 + c4 + c5, c3 + c4 + c5 + c6, c4 + c5 + c6 + c7, c5 + c6 + c7, c6 + c7, c7] := by simp only [num]; omega
  rw [e3, e4]
  have e5 : num [c0 + c1 + c2 + c3, c1 + c2 + c3 + c4, c2 + c3 + c4 + c5, c3 + c4 + c5 + c6, c4 + c5 + c6 + c7, c5 + c6 + c7, c6 + c7, c7] / 4294967296 = num [c4 + c5 + c6 + c7, c5 + c6 + c7, c6 + c7, c7] := by simp only [num]; omega
  rw [e5]
  simp only [num]
  omega
theorem ones_sum (x : Nat) (h : x < 18446744073709551616) : ((bytes x).map (ones 8)).sum = ones 64 x := by
  have := num_ones (bytes x) (bytes_lt x)
  rw [num_bytes x h] at this
  exact this.symm

/-- the lowest true bit made false -/
def clr : List Bool → List Bool
  | [] => []
  | true :: l => false :: l
  | false :: l => false :: clr l
/-- the place of the true bit with k true ones ahead -/
def sel : Nat → List Bool → Nat
  | _, [] => 0
  | 0, true :: _ => 0
  | k + 1, true :: l => 1 + sel k l
  | k, false :: l => 1 + sel k l
theorem sel_false (k : Nat) (l : List Bool) : sel k (false :: l) = 1 + sel k l := by cases k <;> rfl
theorem sel_clr : ∀ (l : List Bool) (k : Nat), sel k (clr l) = sel (k + 1) l
  | [], k => by simp [clr, sel]
  | true :: l, k => by rw [clr, sel_false, sel]
  | false :: l, k => by rw [clr, sel_false, sel_false, sel_clr l k]
theorem clr_len : ∀ l : List Bool, (clr l).length = l.length
  | [] => rfl
  | true :: l => rfl
  | false :: l => by simp [clr, clr_len l]
theorem cnt_clr : ∀ l : List Bool, cnt (clr l) = cnt l - 1
  | [] => rfl
  | true :: l => by simp [clr, cnt]
  | false :: l => by simpa [clr, cnt] using cnt_clr l
theorem ofBits_pos : ∀ l : List Bool, 0 < cnt l → 0 < ofBits l
  | [], h => by simp [cnt] at h
  | true :: l, _ => by simp [ofBits]; omega
  | false :: l, h => by
    have := ofBits_pos l (by simpa [cnt] using h)
    simp [ofBits]; omega
theorem ofBits_clr : ∀ l : List Bool, 0 < cnt l → ofBits l &&& (ofBits l - 1) = ofBits (clr l)
  | [], h => by simp [cnt] at h
  | true :: l, _ => by
    have h1 := Nat.and_div_two_pow (a := ofBits (true :: l)) (b := ofBits (true :: l) - 1) (n := 1)
    have h2 := Nat.and_mod_two_pow (a := ofBits (true :: l)) (b := ofBits (true :: l) - 1) (n := 1)
    simp only [ofBits, clr, Bool.toNat_true, Bool.toNat_false, Nat.pow_one] at *
    have e1 : (1 + 2 * ofBits l) / 2 = ofBits l := by omega
    have e2 : (1 + 2 * ofBits l - 1) / 2 = ofBits l := by omega
    have e3 : (1 + 2 * ofBits l - 1) % 2 = 0 := by omega
    rw [e1, e2, Nat.and_self] at h1
    rw [e3, Nat.and_zero] at h2
    omega
  | false :: l, h => by
    have hp : 0 < cnt l := by simpa [cnt] using h
    have ih := ofBits_clr l hp
    have hpos := ofBits_pos l hp
    have h1 := Nat.and_div_two_pow (a := ofBits (false :: l)) (b := ofBits (false :: l) - 1) (n := 1)
    have h2 := Nat.and_mod_two_pow (a := ofBits (false :: l)) (b := ofBits (false :: l) - 1) (n := 1)
    simp only [ofBits, clr, Bool.toNat_false, Nat.pow_one] at *
    have e1 : (0 + 2 * ofBits l) / 2 = ofBits l := by omega
    have e2 : (0 + 2 * ofBits l - 1) / 2 = ofBits l - 1 := by omega
    have e3 : (0 + 2 * ofBits l) % 2 = 0 := by omega
    rw [e1, e2, ih] at h1
    rw [e3, Nat.zero_and] at h2
    omega
theorem ctz_sel : ∀ (f : Nat) (l : List Bool), l.length ≤ f → 0 < cnt l → Lib.ctzFrom f (ofBits l) = sel 0 l
  | f, [], _, h => by simp [cnt] at h
  | 0, b :: l, h, _ => by simp at h
  | f + 1, true :: l, _, _ => by
    have : ofBits (true :: l) % 2 = 1 := by simp [ofBits]
    rw [Lib.ctzFrom, if_pos this, sel]
  | f + 1, false :: l, h, hp => by
    have e1 : ¬ ofBits (false :: l) % 2 = 1 := by simp [ofBits]
    have e2 : ofBits (false :: l) / 2 = ofBits l := by simp [ofBits]
    rw [Lib.ctzFrom, if_neg e1, e2, ctz_sel f l (by simpa using h) (by simpa [cnt] using hp), sel_false]
theorem ctz_sel64 (l : List Bool) (h : l.length ≤ 64) (hp : 0 < cnt l) : Lib.ctz 64 (ofBits l) = sel 0 l := by
  have := ofBits_pos l hp
  unfold Lib.ctz
  rw [if_neg (by omega), ctz_sel 64 l h hp]
theorem sel_spec : ∀ (l : List Bool) (k : Nat), k < cnt l → sel k l < l.length ∧ l[sel k l]? = some true ∧ cnt (l.take (sel k l)) = k
  | [], k, h => by simp [cnt] at h
  | true :: l, 0, _ => by simp [sel, cnt]
  | true :: l, k + 1, h => by
    have := sel_spec l k (by simpa [cnt] using h)
    rw [sel]
    refine ⟨by simp; omega, ?_, ?_⟩
    · rw [Nat.add_comm]; simpa using this.2.1
    · rw [Nat.add_comm]; simpa [cnt] using this.2.2
  | false :: l, k, h => by
    have := sel_spec l k (by simpa [cnt] using h)
    rw [sel_false]
    refine ⟨by simp; omega, ?_, ?_⟩
    · rw [Nat.add_comm]; simpa using this.2.1
    · rw [Nat.add_comm]; simpa [cnt] using this.2.2
/-- the lowest true bit of a number -/
theorem ctz_spec : ∀ (f x : Nat), 0 < x → x < 2 ^ f → Lib.ctzFrom f x < f ∧ x.testBit (Lib.ctzFrom f x) = true ∧ ∀ j, j < Lib.ctzFrom f x → x.testBit j = false
  | 0, x, h0, h => by simp at h; omega
  | f + 1, x, h0, h => by
    rw [Lib.ctzFrom]
    by_cases h1 : x % 2 = 1
    · rw [if_pos h1]
      exact ⟨by omega, by rw [Nat.testBit_zero]; simp [h1], fun j hj => by omega⟩
    · rw [if_neg h1]
      obtain ⟨a, b, c⟩ := ctz_spec f (x / 2) (by omega) (by rw [Nat.pow_succ] at h; omega)
      refine ⟨by omega, by rw [Nat.add_comm, Nat.testBit_succ]; exact b, ?_⟩
      intro j hj
      cases j with
      | zero => rw [Nat.testBit_zero]; simp [h1]
      | succ j => rw [Nat.testBit_succ]; exact c j (by omega)
theorem ctz64_spec (x : Nat) (h0 : x ≠ 0) (h : x < 18446744073709551616) : Lib.ctz 64 x < 64 ∧ x.testBit (Lib.ctz 64 x) = true ∧ ∀ j, j < Lib.ctz 64 x → x.testBit j = false := by
  unfold Lib.ctz
  rw [if_neg h0]
  exact ctz_spec 64 x (by omega) h
end Go.Proofs.YtbdjpacmbaoaeaaDoor
