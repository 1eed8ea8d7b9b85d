/- Sets whose places move: insertions and removals. -/

namespace Go.Proofs.Ytdejdnkkbpmmlaa.S
/-- A span, or a pair of numbers. -/
abbrev Sp := Int × Int

def chkFrom (last : Int) : List Sp → Int
  | [] => 0
  | s :: r => if s.1 < 0 ∨ s.2 ≤ s.1 ∨ 1073741824 < s.2 then 1 else if s.1 ≤ last then 16 else chkFrom s.2 r
/-- the error of a set -/
def chk (xs : List Sp) : Int := if 4096 < xs.length then 3 else chkFrom (-1) xs

theorem chkFrom_drop {last : Int} {xs : List Sp} {k : Nat} (h : k < xs.length) :
    chkFrom last (xs.drop k) = if xs[k].1 < 0 ∨ xs[k].2 ≤ xs[k].1 ∨ 1073741824 < xs[k].2 then 1 else if xs[k].1 ≤ last then 16 else chkFrom xs[k].2 (xs.drop (k + 1)) := by
  rw [List.drop_eq_getElem_cons h]; rfl
theorem chkFrom_end {last : Int} {xs : List Sp} {k : Nat} (h : xs.length ≤ k) : chkFrom last (xs.drop k) = 0 := by
  rw [List.drop_eq_nil_of_le h]; rfl

/-- the end of the span ahead of the k-th -/
def prevB (xs : List Sp) : Nat → Int
  | 0 => -1
  | j + 1 => (xs.getD j (0, 0)).2
theorem prevB_zero {xs : List Sp} {k : Nat} (h : k ≤ 0) : prevB xs k = -1 := by
  obtain rfl : k = 0 := by omega
  rfl
theorem prevB_pos {xs : List Sp} {k : Nat} (h : 0 < k) (hk : k - 1 < xs.length) : prevB xs k = xs[k - 1].2 := by
  obtain ⟨j, rfl⟩ : ∃ j, k = j + 1 := ⟨k - 1, by omega⟩
  have hj : j < xs.length := by omega
  show (xs.getD j (0, 0)).2 = _
  simp [List.getD, List.getElem?_eq_getElem hj]
theorem prevB_succ {xs : List Sp} {k : Nat} (h : k < xs.length) : prevB xs (k + 1) = xs[k].2 := by
  show (xs.getD k (0, 0)).2 = _
  simp [List.getD, List.getElem?_eq_getElem h]
/-- is a place in one of some spans -/
def hasB : List Sp → Int → Bool
  | [], _ => false
  | s :: r, i => if s.1 ≤ i ∧ i < s.2 then true else hasB r i
theorem hasB_drop {i : Int} {xs : List Sp} {k : Nat} (h : k < xs.length) :
    hasB (xs.drop k) i = if xs[k].1 ≤ i ∧ i < xs[k].2 then true else hasB (xs.drop (k + 1)) i := by
  rw [List.drop_eq_getElem_cons h]; rfl
theorem hasB_end {i : Int} {xs : List Sp} {k : Nat} (h : xs.length ≤ k) : hasB (xs.drop k) i = false := by
  rw [List.drop_eq_nil_of_le h]; rfl

/-- how many places, added up -/
def sumB (acc : Int) : List Sp → Int
  | [] => acc
  | s :: r => sumB (acc + (s.2 - s.1)) r
theorem sumB_drop {acc : Int} {xs : List Sp} {k : Nat} (h : k < xs.length) :
    sumB acc (xs.drop k) = sumB (acc + (xs[k].2 - xs[k].1)) (xs.drop (k + 1)) := by
  rw [List.drop_eq_getElem_cons h]; rfl
theorem sumB_end {acc : Int} {xs : List Sp} {k : Nat} (h : xs.length ≤ k) : sumB acc (xs.drop k) = acc := by
  rw [List.drop_eq_nil_of_le h]; rfl

def cnt (xs : List Sp) : Int := if chk xs = 0 then sumB 0 xs else 0
theorem cnt_ok {xs : List Sp} (h : chk xs = 0) : cnt xs = sumB 0 xs := if_pos h
theorem cnt_no {xs : List Sp} (h : ¬ chk xs = 0) : cnt xs = 0 := if_neg h
def hasS (xs : List Sp) (i : Int) : Bool := decide (chk xs = 0) && hasB xs i
theorem hasS_ok {xs : List Sp} {i : Int} (h : chk xs = 0) : hasS xs i = hasB xs i := by simp [hasS, h]
theorem hasS_no {xs : List Sp} {i : Int} (h : ¬ chk xs = 0) : hasS xs i = false := by simp [hasS, h]
theorem chkFrom_ne {a : Int} {xs : List Sp} (h : chkFrom a xs = 0) : ∀ (k : Nat) (hk : k < xs.length), 0 ≤ xs[k].1 ∧ xs[k].1 < xs[k].2 ∧ xs[k].2 ≤ 1073741824 := by
  induction xs generalizing a with
  | nil => intro k hk; simp at hk
  | cons s r ih =>
    unfold chkFrom at h
    split at h
    · omega
    · split at h
      · omega
      · intro k hk
        cases k with
        | zero => simp only [List.getElem_cons_zero]; omega
        | succ k => simpa using ih h k (by simpa using hk)
theorem chk_len {xs : List Sp} (h : chk xs = 0) : xs.length ≤ 4096 := by
  unfold chk at h
  split at h <;> omega
theorem chk_from {xs : List Sp} (h : chk xs = 0) : chkFrom (-1) xs = 0 := by
  unfold chk at h
  split at h
  · omega
  · exact h
theorem chk_get {xs : List Sp} (h : chk xs = 0) : ∀ (k : Nat) (hk : k < xs.length), 0 ≤ xs[k].1 ∧ xs[k].1 < xs[k].2 ∧ xs[k].2 ≤ 1073741824 :=
  chkFrom_ne (chk_from h)

/-- a span is appended; spans that touch become one -/
def addS (l : List Sp) (s : Sp) : List Sp :=
  if s.2 ≤ s.1 then l else if 0 < l.length ∧ s.1 ≤ (l.getD (l.length - 1) (0, 0)).2 then l.set (l.length - 1) ((l.getD (l.length - 1) (0, 0)).1, s.2) else l ++ [s]
theorem addS_no {l : List Sp} {s : Sp} (h : s.2 ≤ s.1) : addS l s = l := if_pos h
theorem addS_join {l : List Sp} {s t : Sp} (h : s.1 < s.2) (hl : 0 < l.length) (ht : l.getD (l.length - 1) (0, 0) = t) (h2 : s.1 ≤ t.2) : addS l s = l.set (l.length - 1) (t.1, s.2) := by
  unfold addS
  rw [if_neg (by omega), ht, if_pos ⟨hl, h2⟩]
theorem addS_app {l : List Sp} {s t : Sp} (h : s.1 < s.2) (ht : l.getD (l.length - 1) (0, 0) = t) (h2 : l.length = 0 ∨ t.2 < s.1) : addS l s = l ++ [s] := by
  unfold addS
  rw [if_neg (by omega), ht, if_neg (by omega)]
theorem addS_len (l : List Sp) (s : Sp) : (addS l s).length ≤ l.length + 1 := by
  unfold addS
  split
  · omega
  · split <;> simp

/-- may a number be a place or a number of places -/
def okP (x : Int) : Bool := decide (0 ≤ x ∧ x ≤ 1073741824)
theorem okP_t {x : Int} (h1 : 0 ≤ x) (h2 : x ≤ 1073741824) : okP x = true := decide_eq_true ⟨h1, h2⟩
theorem okP_f {x : Int} (h : x < 0 ∨ 1073741824 < x) : okP x = false := decide_eq_false (by omega)

def strIn : List Sp → Int → Bool
  | [], _ => false
  | s :: _, a => decide (s.1 ≤ a)
def strEnd : List Sp → Int → Int
  | [], _ => 1073741824
  | s :: _, a => if a < s.1 then s.1 else s.2
theorem strIn_lt {s : Sp} {r : List Sp} {a : Int} (h : a < s.1) : strIn (s :: r) a = false := decide_eq_false (by omega)
theorem strIn_ge {s : Sp} {r : List Sp} {a : Int} (h : s.1 ≤ a) : strIn (s :: r) a = true := decide_eq_true h
theorem strEnd_lt {s : Sp} {r : List Sp} {a : Int} (h : a < s.1) : strEnd (s :: r) a = s.1 := if_pos h
theorem strEnd_ge {s : Sp} {r : List Sp} {a : Int} (h : s.1 ≤ a) : strEnd (s :: r) a = s.2 := if_neg (by omega)
end Go.Proofs.Ytdejdnkkbpmmlaa.S

namespace Go.Proofs.Ytdejdnkkbpmmlaa.S

def Val (l : Int) : List Sp → Prop
  | [] => True
  | s :: r => l < s.1 ∧ s.1 < s.2 ∧ s.2 ≤ 1073741824 ∧ Val s.2 r
theorem val_chk {l : Int} {xs : List Sp} (hl : -1 ≤ l) : chkFrom l xs = 0 ↔ Val l xs := by
  induction xs generalizing l with
  | nil => simp [chkFrom, Val]
  | cons s r ih =>
    unfold chkFrom Val
    split
    · constructor
      · intro h; omega
      · intro h; omega
    · split
      · constructor
        · intro h; omega
        · intro h; omega
      · rw [ih (l := s.2) (by omega)]
        constructor
        · intro h; exact ⟨by omega, by omega, by omega, h⟩
        · intro h; exact h.2.2.2
theorem val_of_chk {xs : List Sp} (h : chk xs = 0) : Val (-1) xs := (val_chk (by omega)).1 (chk_from h)
theorem chk_of_val {xs : List Sp} (h : Val (-1) xs) (hl : xs.length ≤ 4096) : chk xs = 0 := by
  unfold chk
  rw [if_neg (by omega)]
  exact (val_chk (by omega)).2 h

def endOf (l : Int) : List Sp → Int
  | [] => l
  | s :: r => endOf s.2 r
theorem val_snoc {l : Int} {xs : List Sp} {s : Sp} : Val l (xs ++ [s]) ↔ Val l xs ∧ endOf l xs < s.1 ∧ s.1 < s.2 ∧ s.2 ≤ 1073741824 := by
  induction xs generalizing l with
  | nil => simp [Val, endOf]
  | cons t r ih => simp only [List.cons_append, Val, endOf, ih]; constructor <;> (intro h; simp only [h, and_self])
theorem endOf_snoc {l : Int} {xs : List Sp} {s : Sp} : endOf l (xs ++ [s]) = s.2 := by
  induction xs generalizing l with
  | nil => rfl
  | cons t r ih => exact ih
theorem hasB_app {xs ys : List Sp} {i : Int} : hasB (xs ++ ys) i = (hasB xs i || hasB ys i) := by
  induction xs with
  | nil => rfl
  | cons s r ih => simp only [List.cons_append, hasB, ih]; split <;> simp
theorem hasB_one {s : Sp} {i : Int} : hasB [s] i = decide (s.1 ≤ i ∧ i < s.2) := by
  unfold hasB hasB
  split <;> rename_i h
  · exact (decide_eq_true h).symm
  · exact (decide_eq_false h).symm
theorem hasB_cons {s : Sp} {r : List Sp} {i : Int} : hasB (s :: r) i = (decide (s.1 ≤ i ∧ i < s.2) || hasB r i) := by
  rw [← hasB_one]; exact hasB_app (xs := [s])
theorem hasB_lo {l : Int} {xs : List Sp} {i : Int} (h : Val l xs) (hi : i ≤ l) : hasB xs i = false := by
  induction xs generalizing l with
  | nil => rfl
  | cons s r ih =>
    obtain ⟨h1, h2, h3, h4⟩ := h
    rw [hasB_cons, ih h4 (by omega), decide_eq_false (by omega)]; rfl
theorem endOf_ge {l : Int} {xs : List Sp} (h : Val l xs) : l ≤ endOf l xs := by
  induction xs generalizing l with
  | nil => exact Int.le_refl _
  | cons s r ih => obtain ⟨h1, h2, h3, h4⟩ := h; have := ih h4; show l ≤ endOf s.2 r; omega
theorem endOf_le {l : Int} {xs : List Sp} (h : Val l xs) (hl : l ≤ 1073741824) : endOf l xs ≤ 1073741824 := by
  induction xs generalizing l with
  | nil => exact hl
  | cons s r ih => obtain ⟨h1, h2, h3, h4⟩ := h; exact ih h4 h3
theorem hasB_hi {l : Int} {xs : List Sp} {i : Int} (h : Val l xs) (hi : endOf l xs ≤ i) : hasB xs i = false := by
  induction xs generalizing l with
  | nil => rfl
  | cons s r ih =>
    obtain ⟨h1, h2, h3, h4⟩ := h
    have := endOf_ge h4
    have hi' : endOf s.2 r ≤ i := hi
    rw [hasB_cons, ih h4 hi', decide_eq_false (by omega)]; rfl

/-- each set has one list -/
theorem val_ext {l : Int} {xs ys : List Sp} (hx : Val l xs) (hy : Val l ys) (h : ∀ i, hasB xs i = hasB ys i) : xs = ys := by
  induction xs generalizing l ys with
  | nil =>
    cases ys with
    | nil => rfl
    | cons t u =>
      have := h t.1
      obtain ⟨h1, h2, h3, h4⟩ := hy
      rw [hasB_cons, decide_eq_true (by omega)] at this
      simp [hasB] at this
  | cons s r ih =>
    cases ys with
    | nil =>
      have := h s.1
      obtain ⟨h1, h2, h3, h4⟩ := hx
      rw [hasB_cons, decide_eq_true (by omega)] at this
      simp [hasB] at this
    | cons t u =>
      obtain ⟨a1, a2, a3, a4⟩ := hx
      obtain ⟨b1, b2, b3, b4⟩ := hy
      have e1 : s.1 = t.1 := by
        rcases Int.lt_trichotomy s.1 t.1 with hlt | he | hgt
        · have := h s.1
          rw [hasB_cons, hasB_cons, decide_eq_true (by omega), decide_eq_false (by omega), hasB_lo b4 (by omega)] at this
          simp at this
        · exact he
        · have := h t.1
          rw [hasB_cons, hasB_cons, decide_eq_false (by omega), decide_eq_true (by omega), hasB_lo a4 (by omega)] at this
          simp at this
      have e2 : s.2 = t.2 := by
        rcases Int.lt_trichotomy s.2 t.2 with hlt | he | hgt
        · have := h s.2
          rw [hasB_cons, hasB_cons, decide_eq_false (by omega), decide_eq_true (by omega), hasB_lo a4 (by omega)] at this
          simp at this
        · exact he
        · have := h t.2
          rw [hasB_cons, hasB_cons, decide_eq_true (by omega), decide_eq_false (by omega), hasB_lo b4 (by omega)] at this
          simp at this
      have e : s = t := Prod.ext e1 e2
      subst e
      rw [ih a4 b4 (fun i => ?_)]
      by_cases hi : i ≤ s.2
      · rw [hasB_lo a4 hi, hasB_lo b4 hi]
      · have := h i
        rwa [hasB_cons, hasB_cons, decide_eq_false (by omega), Bool.false_or, Bool.false_or] at this

/-- the last span neither begins behind p nor ends behind q -/
def LastLe (out : List Sp) (p q : Int) : Prop := ∀ ys t, out = ys ++ [t] → t.1 ≤ p ∧ t.2 ≤ q
theorem LastLe.nil {p q : Int} : LastLe [] p q := fun ys t h => by simp at h
theorem LastLe.mono {out : List Sp} {p q p' q' : Int} (h : LastLe out p q) (hp : p ≤ p') (hq : q ≤ q') : LastLe out p' q' := fun ys t e => by
  have := h ys t e; omega

theorem addS_set {out : List Sp} {p q : Int} (hv : Val (-1) out) (h : p < q → 0 ≤ p ∧ q ≤ 1073741824 ∧ LastLe out p q) :
    Val (-1) (addS out (p, q)) ∧ (∀ i, hasB (addS out (p, q)) i = (hasB out i || decide (p ≤ i ∧ i < q))) ∧ (p < q → LastLe (addS out (p, q)) p q) := by
  by_cases hpq : p < q
  · obtain ⟨h0, hq, hl⟩ := h hpq
    rcases List.eq_nil_or_concat out with rfl | ⟨ys, t, rfl⟩
    · rw [addS_app (t := (0, 0)) hpq rfl (.inl rfl)]
      refine ⟨⟨by show -1 < p; omega, hpq, hq, trivial⟩, fun i => by rw [hasB_app, hasB_one], fun _ ys t e => ?_⟩
      have e' : (p, q) = t := by
        cases ys with
        | nil => simpa using e
        | cons a b => simp at e
      subst e'
      exact ⟨Int.le_refl _, Int.le_refl _⟩
    · rw [List.concat_eq_append] at *
      obtain ⟨ht1, ht2⟩ := hl ys t rfl
      obtain ⟨v1, v2, v3, v4⟩ := val_snoc.1 hv
      have hge := endOf_ge v1
      have hget : (ys ++ [t]).getD ((ys ++ [t]).length - 1) (0, 0) = t := by simp [List.getD]
      by_cases h2 : p ≤ t.2
      · rw [addS_join hpq (by simp) hget h2]
        have hset : (ys ++ [t]).set ((ys ++ [t]).length - 1) (t.1, q) = ys ++ [(t.1, q)] := by simp
        simp only [hset]
        refine ⟨val_snoc.2 ⟨v1, v2, by show t.1 < q; omega, hq⟩, fun i => ?_, fun _ zs u e => ?_⟩
        · rw [hasB_app, hasB_app, hasB_one, hasB_one]
          rw [Bool.eq_iff_iff]
          simp only [Bool.or_eq_true, decide_eq_true_eq]
          constructor
          · rintro (hh | hh)
            · exact .inl (.inl hh)
            · by_cases hi : i < t.2
              · exact .inl (.inr ⟨hh.1, hi⟩)
              · exact .inr ⟨by omega, hh.2⟩
          · rintro ((hh | hh) | hh)
            · exact .inl hh
            · exact .inr ⟨hh.1, by show i < q; omega⟩
            · exact .inr ⟨by show t.1 ≤ i; omega, hh.2⟩
        · obtain ⟨_, e2⟩ := List.append_inj' e rfl
          have e3 : (t.1, q) = u := by simpa using e2
          subst e3
          exact ⟨ht1, Int.le_refl _⟩
      · rw [addS_app hpq hget (.inr (by show t.2 < p; omega))]
        refine ⟨val_snoc.2 ⟨hv, by rw [endOf_snoc]; show t.2 < p; omega, hpq, hq⟩, fun i => by rw [hasB_app, hasB_one], fun _ zs u e => ?_⟩
        obtain ⟨_, e2⟩ := List.append_inj' e rfl
        have e3 : (p, q) = u := by simpa using e2
        subst e3
        exact ⟨Int.le_refl _, Int.le_refl _⟩
  · rw [addS_no (by show q ≤ p; omega)]
    exact ⟨hv, fun i => by rw [decide_eq_false (by omega), Bool.or_false], fun h' => absurd h' hpq⟩

theorem val_len {l : Int} {xs : List Sp} (h : Val l xs) : (xs.length : Int) ≤ endOf l xs - l := by
  induction xs generalizing l with
  | nil => simp [endOf]
  | cons s r ih => obtain ⟨h1, h2, h3, h4⟩ := h; have := ih h4; simp only [List.length_cons, endOf]; omega
theorem val_len' {xs : List Sp} (h : Val (-1) xs) : xs.length ≤ 1073741825 := by
  have h1 := val_len h; have h2 := endOf_le h (by omega); omega

/-- What is left of a set when a sweep is at a place. -/
structure Rest (y0 ys : List Sp) (a : Int) : Prop where
  val : ∃ l, l ≤ a ∧ Val l ys
  head : ∀ s r, ys = s :: r → a ≤ s.2
  same : ∀ i, a ≤ i → hasB ys i = hasB y0 i
theorem Rest.start {y0 : List Sp} (h : Val (-1) y0) : Rest y0 y0 0 :=
  ⟨⟨-1, by omega, h⟩, fun s r e => by subst e; obtain ⟨h1, h2, _⟩ := h; omega, fun _ _ => rfl⟩
theorem Rest.pop {y0 r : List Sp} {s : Sp} {a : Int} (h : Rest y0 (s :: r) a) (e : s.2 = a) : Rest y0 r a := by
  obtain ⟨l, hl, h1, h2, h3, h4⟩ := h.val
  refine ⟨⟨s.2, by omega, h4⟩, fun t u et => ?_, fun i hi => ?_⟩
  · subst et; obtain ⟨g1, g2, _⟩ := h4; omega
  · rw [← h.same i hi, hasB_cons, decide_eq_false (by omega)]; rfl
theorem Rest.str {y0 ys : List Sp} {a : Int} (h : Rest y0 ys a) (hne : ∀ s r, ys = s :: r → s.2 ≠ a) (ha : a < 1073741824) :
    a < strEnd ys a ∧ strEnd ys a ≤ 1073741824 ∧ ∀ e, a < e → e ≤ strEnd ys a → Rest y0 ys e ∧ ∀ i, a ≤ i → i < e → hasB y0 i = strIn ys a := by
  cases ys with
  | nil =>
    refine ⟨ha, Int.le_refl _, fun e h1 h2 => ⟨⟨⟨a, by omega, trivial⟩, fun s r e => (by cases e), fun i hi => h.same i (by omega)⟩, fun i h3 h4 => ?_⟩⟩
    rw [← h.same i h3]; rfl
  | cons s r =>
    have hs := h.head s r rfl
    have hn := hne s r rfl
    obtain ⟨l, hl, h1, h2, h3, h4⟩ := h.val
    by_cases hc : a < s.1
    · rw [strEnd_lt hc]
      refine ⟨hc, by omega, fun e h5 h6 => ⟨⟨⟨l, by omega, h1, h2, h3, h4⟩, fun t u et => (by cases et; omega), fun i hi => h.same i (by omega)⟩, fun i h7 h8 => ?_⟩⟩
      rw [← h.same i h7, strIn_lt hc, hasB_cons, decide_eq_false (by omega), hasB_lo h4 (by omega)]; rfl
    · rw [strEnd_ge (by omega)]
      refine ⟨by omega, h3, fun e h5 h6 => ⟨⟨⟨l, by omega, h1, h2, h3, h4⟩, fun t u et => (by cases et; omega), fun i hi => h.same i (by omega)⟩, fun i h7 h8 => ?_⟩⟩
      rw [← h.same i h7, strIn_ge (by omega), hasB_cons, decide_eq_true (by omega)]; rfl

/-- The sweep's state. -/
structure Sw (keep : Bool → Bool → Bool) (a0 b0 ya yb out : List Sp) (a : Int) : Prop where
  lo : 0 ≤ a
  hi : a ≤ 1073741824
  ra : Rest a0 ya a
  rb : Rest b0 yb a
  vo : Val (-1) out
  ho : ∀ i, hasB out i = (decide (0 ≤ i ∧ i < a) && keep (hasB a0 i) (hasB b0 i))
  last : LastLe out a a
theorem Sw.start {keep : Bool → Bool → Bool} {a0 b0 : List Sp} (ha : Val (-1) a0) (hb : Val (-1) b0) : Sw keep a0 b0 a0 b0 [] 0 :=
  ⟨by omega, by omega, .start ha, .start hb, trivial, fun i => by rw [decide_eq_false (by omega)]; rfl, .nil⟩
theorem Sw.pop_a {keep : Bool → Bool → Bool} {a0 b0 r yb out : List Sp} {s : Sp} {a : Int} (h : Sw keep a0 b0 (s :: r) yb out a) (e : s.2 = a) : Sw keep a0 b0 r yb out a :=
  ⟨h.lo, h.hi, h.ra.pop e, h.rb, h.vo, h.ho, h.last⟩
theorem Sw.pop_b {keep : Bool → Bool → Bool} {a0 b0 r ya out : List Sp} {s : Sp} {a : Int} (h : Sw keep a0 b0 ya (s :: r) out a) (e : s.2 = a) : Sw keep a0 b0 ya r out a :=
  ⟨h.lo, h.hi, h.ra, h.rb.pop e, h.vo, h.ho, h.last⟩
theorem Sw.step {keep : Bool → Bool → Bool} {a0 b0 ya yb out : List Sp} {a : Int} (h : Sw keep a0 b0 ya yb out a)
    (hna : ∀ s r, ya = s :: r → s.2 ≠ a) (hnb : ∀ s r, yb = s :: r → s.2 ≠ a) (hne : ¬ (ya = [] ∧ yb = [])) :
    a < min (strEnd ya a) (strEnd yb a) ∧ min (strEnd ya a) (strEnd yb a) ≤ 1073741824 ∧
    Sw keep a0 b0 ya yb (if keep (strIn ya a) (strIn yb a) = true then addS out (a, min (strEnd ya a) (strEnd yb a)) else out) (min (strEnd ya a) (strEnd yb a)) := by
  have hM : a < 1073741824 := by
    have key : ∀ (y0 : List Sp) ys, Rest y0 ys a → (∀ s r, ys = s :: r → s.2 ≠ a) → ys ≠ [] → a < 1073741824 := by
      intro y0 ys hr hn he
      cases ys with
      | nil => exact absurd rfl he
      | cons s r =>
        have := hr.head s r rfl
        have := hn s r rfl
        obtain ⟨l, hl, h1, h2, h3, h4⟩ := hr.val
        omega
    by_cases he : ya = []
    · exact key b0 yb h.rb hnb (fun e => hne ⟨he, e⟩)
    · exact key a0 ya h.ra hna he
  obtain ⟨p1, p2, p3⟩ := h.ra.str hna hM
  obtain ⟨q1, q2, q3⟩ := h.rb.str hnb hM
  generalize hA : strEnd ya a = ea at *
  generalize hB : strEnd yb a = eb at *
  have hlt : a < min ea eb := by omega
  obtain ⟨r1, r2⟩ := p3 (min ea eb) hlt (by omega)
  obtain ⟨s1, s2⟩ := q3 (min ea eb) hlt (by omega)
  have hle : min ea eb ≤ 1073741824 := by omega
  generalize min ea eb = e at *
  clear hA hB p3 q3
  refine ⟨hlt, hle, ?_⟩
  have hlo := h.lo
  have hsp : ∀ i, (hasB out i || (keep (strIn ya a) (strIn yb a) && decide (a ≤ i ∧ i < e))) = (decide (0 ≤ i ∧ i < e) && keep (hasB a0 i) (hasB b0 i)) := by
    intro i
    rw [h.ho i]
    by_cases h1 : 0 ≤ i ∧ i < a
    · rw [decide_eq_true h1, decide_eq_true (p := 0 ≤ i ∧ i < e) (by omega), decide_eq_false (p := a ≤ i ∧ i < e) (by omega)]
      simp
    · by_cases h2 : a ≤ i ∧ i < e
      · rw [decide_eq_false h1, decide_eq_true (p := 0 ≤ i ∧ i < e) (by omega), decide_eq_true h2, r2 i h2.1 h2.2, s2 i h2.1 h2.2]
        simp
      · rw [decide_eq_false h1, decide_eq_false (p := 0 ≤ i ∧ i < e) (by omega), decide_eq_false h2]
        simp
  by_cases hk : keep (strIn ya a) (strIn yb a) = true
  · rw [if_pos hk]
    obtain ⟨g1, g2, g3⟩ := addS_set (out := out) (p := a) (q := e) h.vo (fun _ => ⟨by omega, hle, h.last.mono (Int.le_refl _) (by omega)⟩)
    refine ⟨by omega, hle, r1, s1, g1, fun i => ?_, (g3 hlt).mono (by omega) (Int.le_refl _)⟩
    rw [g2 i, ← hsp i, hk]; simp
  · rw [if_neg hk]
    refine ⟨by omega, hle, r1, s1, h.vo, fun i => ?_, h.last.mono (by omega) (by omega)⟩
    rw [← hsp i, Bool.eq_false_iff.2 hk]; simp
theorem Sw.stop {keep : Bool → Bool → Bool} {a0 b0 out : List Sp} {a : Int} (h : Sw keep a0 b0 [] [] out a) (ha : Val (-1) a0) (hb : Val (-1) b0) (hk : keep false false = false) :
    ∀ i, hasB out i = keep (hasB a0 i) (hasB b0 i) := by
  intro i
  rw [h.ho i]
  by_cases h1 : 0 ≤ i ∧ i < a
  · rw [decide_eq_true h1]; simp
  · rw [decide_eq_false h1]
    rcases Int.lt_or_le i 0 with h2 | h2
    · rw [hasB_lo ha (by omega), hasB_lo hb (by omega), hk]; rfl
    · rw [← h.ra.same i (by omega), ← h.rb.same i (by omega)]
      show _ = keep false false
      rw [hk]; rfl

theorem val_take {l : Int} {xs : List Sp} (h : Val l xs) {k : Nat} (hk : k < xs.length) : endOf l (xs.take k) < xs[k].1 ∧ xs[k].1 < xs[k].2 ∧ xs[k].2 ≤ 1073741824 := by
  induction xs generalizing l k with
  | nil => simp at hk
  | cons s r ih =>
    obtain ⟨h1, h2, h3, h4⟩ := h
    cases k with
    | zero => exact ⟨h1, h2, h3⟩
    | succ k => exact ih h4 (by simpa using hk)
end Go.Proofs.Ytdejdnkkbpmmlaa.S

namespace Go.Proofs.Ytdejdnkkbpmmlaa.S

theorem LastLe.addS {out : List Sp} {p q x : Int} (hl : LastLe out x x) (hp : p < q → p ≤ x ∧ q ≤ x) (h3 : p < q → LastLe (addS out (p, q)) p q) : LastLe (addS out (p, q)) x x := by
  by_cases h : p < q
  · exact (h3 h).mono (hp h).1 (hp h).2
  · rw [addS_no (by show q ≤ p; omega)]; exact hl

def remM (xs : List Sp) (a n i : Int) : Bool := if i < a then hasB xs i else hasB xs (i + n)
def gR (a n e : Int) : Int := max (min e a) (e - n)
/-- a removal, so far -/
structure Rm (a n : Int) (done out : List Sp) : Prop where
  vd : Val (-1) done
  vo : Val (-1) out
  ho : ∀ i, hasB out i = remM done a n i
  last : LastLe out (gR a n (endOf (-1) done)) (gR a n (endOf (-1) done))
theorem Rm.start (a n : Int) : Rm a n [] [] := ⟨trivial, trivial, fun i => by unfold remM; split <;> rfl, .nil⟩
theorem Rm.step {a n : Int} {done out : List Sp} {s : Sp} (h : Rm a n done out) (ha : 0 ≤ a) (ha2 : a ≤ 1073741824) (hn : 0 ≤ n) (h1 : endOf (-1) done < s.1) (h2 : s.1 < s.2) (h3 : s.2 ≤ 1073741824) :
    Rm a n (done ++ [s]) (addS (addS out (s.1, min s.2 a)) (max s.1 (a + min n (1073741824 - a)) - n, s.2 - n)) := by
  have hge := endOf_ge h.vd
  have hg1 : ∀ e, gR a n e = max (min e a) (e - n) := fun e => rfl
  obtain ⟨x1, x2, x3⟩ := addS_set (out := out) (p := s.1) (q := min s.2 a) h.vo (fun _ => ⟨by omega, by omega, h.last.mono (by rw [hg1]; omega) (by rw [hg1]; omega)⟩)
  have l1 : LastLe (addS out (s.1, min s.2 a)) (max (min s.2 a) (endOf (-1) done - n)) (max (min s.2 a) (endOf (-1) done - n)) :=
    LastLe.addS (h.last.mono (by rw [hg1]; omega) (by rw [hg1]; omega)) (fun _ => ⟨by omega, by omega⟩) x3
  obtain ⟨y1, y2, y3⟩ := addS_set (out := addS out (s.1, min s.2 a)) (p := max s.1 (a + min n (1073741824 - a)) - n) (q := s.2 - n) x1 (fun _ => ⟨by omega, by omega, l1.mono (by omega) (by omega)⟩)
  refine ⟨val_snoc.2 ⟨h.vd, h1, h2, h3⟩, y1, fun i => ?_, ?_⟩
  · rw [y2 i, x2 i, h.ho i]
    unfold remM
    rw [hasB_app, hasB_app, hasB_one, hasB_one]
    by_cases hi : i < a
    · rw [if_pos hi, if_pos hi, decide_eq_false (p := max s.1 (a + min n (1073741824 - a)) - n ≤ i ∧ i < s.2 - n) (by omega), Bool.or_false]
      congr 1
      rw [decide_eq_decide]; omega
    · rw [if_neg hi, if_neg hi, decide_eq_false (p := s.1 ≤ i ∧ i < min s.2 a) (by omega), Bool.or_false]
      congr 1
      rw [decide_eq_decide]; omega
  · rw [endOf_snoc]
    exact LastLe.addS (l1.mono (by rw [hg1]; omega) (by rw [hg1]; omega)) (fun _ => ⟨by rw [hg1]; omega, by rw [hg1]; omega⟩) y3

def insM (xs : List Sp) (a n i : Int) : Bool := if i < a then hasB xs i else if i < a + n then false else hasB xs (i - n)
def gI (a n e : Int) : Int := if e ≤ a then e else e + n
/-- an insertion, so far -/
structure In (a n : Int) (done out : List Sp) : Prop where
  vd : Val (-1) done
  vo : Val (-1) out
  ho : ∀ i, hasB out i = insM done a n i
  last : LastLe out (gI a n (endOf (-1) done)) (gI a n (endOf (-1) done))
theorem In.start (a n : Int) : In a n [] [] := ⟨trivial, trivial, fun i => by unfold insM; split <;> (try split) <;> rfl, .nil⟩
theorem In.step {a n : Int} {done out : List Sp} {s : Sp} (h : In a n done out) (ha : 0 ≤ a) (hn : 0 ≤ n) (h1 : endOf (-1) done < s.1) (h2 : s.1 < s.2) (h3 : s.2 ≤ 1073741824) (h4 : a < s.2 → s.2 + n ≤ 1073741824) :
    In a n (done ++ [s]) (if a < s.2 then addS (addS out (s.1, min s.2 a)) (max s.1 a + n, s.2 + n) else addS out (s.1, min s.2 a)) := by
  have hge := endOf_ge h.vd
  have hg1 : ∀ e, (e ≤ a ∧ gI a n e = e) ∨ (a < e ∧ gI a n e = e + n) := fun e => by unfold gI; split <;> omega
  have g1 := hg1 (endOf (-1) done)
  have g2 := hg1 s.2
  obtain ⟨x1, x2, x3⟩ := addS_set (out := out) (p := s.1) (q := min s.2 a) h.vo (fun _ => ⟨by omega, by omega, h.last.mono (by omega) (by omega)⟩)
  have hd : ∀ i, hasB (done ++ [s]) i = (hasB done i || decide (s.1 ≤ i ∧ i < s.2)) := fun i => by rw [hasB_app, hasB_one]
  have l1 : LastLe (addS out (s.1, min s.2 a)) (max (min s.2 a) (gI a n (endOf (-1) done))) (max (min s.2 a) (gI a n (endOf (-1) done))) :=
    LastLe.addS (h.last.mono (by omega) (by omega)) (fun _ => ⟨by omega, by omega⟩) x3
  by_cases hs : a < s.2
  · rw [if_pos hs]
    have h5 := h4 hs
    obtain ⟨y1, y2, y3⟩ := addS_set (out := addS out (s.1, min s.2 a)) (p := max s.1 a + n) (q := s.2 + n) x1 (fun _ => ⟨by omega, by omega, l1.mono (by omega) (by omega)⟩)
    refine ⟨val_snoc.2 ⟨h.vd, h1, h2, h3⟩, y1, fun i => ?_, ?_⟩
    · rw [y2 i, x2 i, h.ho i]
      unfold insM
      rw [hd, hd]
      by_cases hi : i < a
      · rw [if_pos hi, if_pos hi, decide_eq_false (p := max s.1 a + n ≤ i ∧ i < s.2 + n) (by omega), Bool.or_false]
        congr 1
        rw [decide_eq_decide]; omega
      · rw [if_neg hi, if_neg hi, decide_eq_false (p := s.1 ≤ i ∧ i < min s.2 a) (by omega), Bool.or_false]
        by_cases hj : i < a + n
        · rw [if_pos hj, if_pos hj, decide_eq_false (by omega)]; rfl
        · rw [if_neg hj, if_neg hj]
          congr 1
          rw [decide_eq_decide]; omega
    · rw [endOf_snoc]
      exact LastLe.addS (l1.mono (by omega) (by omega)) (fun _ => ⟨by omega, by omega⟩) y3
  · rw [if_neg hs]
    refine ⟨val_snoc.2 ⟨h.vd, h1, h2, h3⟩, x1, fun i => ?_, ?_⟩
    · rw [x2 i, h.ho i]
      unfold insM
      rw [hd, hd]
      by_cases hi : i < a
      · rw [if_pos hi, if_pos hi]
        congr 1
        rw [decide_eq_decide]; omega
      · rw [if_neg hi, if_neg hi, decide_eq_false (p := s.1 ≤ i ∧ i < min s.2 a) (by omega), Bool.or_false]
        by_cases hj : i < a + n
        · rw [if_pos hj, if_pos hj]
        · rw [if_neg hj, if_neg hj, decide_eq_false (by omega), Bool.or_false]
    · rw [endOf_snoc]
      exact l1.mono (by omega) (by omega)

theorem val_end {l : Int} {xs : List Sp} (h : Val l xs) {k : Nat} (hk : k < xs.length) : xs[k].2 ≤ endOf l xs := by
  induction xs generalizing l k with
  | nil => simp at hk
  | cons s r ih =>
    obtain ⟨h1, h2, h3, h4⟩ := h
    cases k with
    | zero => exact endOf_ge h4
    | succ k => exact ih h4 (by simpa using hk)
theorem end_last {l : Int} {xs : List Sp} (h : 0 < xs.length) : xs[xs.length - 1].2 = endOf l xs := by
  rcases List.eq_nil_or_concat xs with rfl | ⟨ys, t, rfl⟩
  · simp at h
  · simp [endOf_snoc]
theorem room_cases (xs : List Sp) (a n : Int) (_hv : Val (-1) xs) (h : endOf (-1) xs ≤ a ∨ endOf (-1) xs + n ≤ 1073741824) :
    xs.length = 0 ∨ ∃ hp : 0 < xs.length, xs[xs.length - 1].2 = endOf (-1) xs ∧ (endOf (-1) xs ≤ a ∨ endOf (-1) xs + n ≤ 1073741824) := by
  rcases Nat.eq_zero_or_pos xs.length with h0 | h0
  · exact .inl h0
  · exact .inr ⟨h0, end_last h0, h⟩
end Go.Proofs.Ytdejdnkkbpmmlaa.S
