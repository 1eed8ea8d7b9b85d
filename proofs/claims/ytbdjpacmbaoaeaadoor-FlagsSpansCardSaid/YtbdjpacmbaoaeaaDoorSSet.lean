/- Sets of places as lists of spans: what is in them, and that each set has one list. -/
import Derived.Test.YtbdjpacmbaoaeaaDoorSPlain
namespace Go.Proofs.YtbdjpacmbaoaeaaDoor.S

def Val (l : Int) : List Sp → Prop
  | [] => True
  | s :: r => l < s.1 ∧ s.1 < s.2 ∧ s.2 ≤ 1073741824 ∧ Val s.2 r
theorem val_chk {l : Int} {xs : List Sp} (hl : -1 ≤ l) : chkFrom l xs = 0 ↔ Val l xs := by
  induction xs generalizing l with
  | nil => simp [chkFrom, Val]
  | cons s r ih =>
    unfold chkFrom Val
    split
    · constructor
      · intro h; omega
      · intro h; omega
    · split
      · constructor
        · intro h; omega
        · intro h; omega
      · rw [ih (l := s.2) (by omega)]
        constructor
        · intro h; exact ⟨by omega, by omega, by omega, h⟩
        · intro h; exact h.2.2.2
theorem val_of_chk {xs : List Sp} (h : chk xs = 0) : Val (-1) xs := (val_chk (by omega)).1 (chk_from h)
theorem chk_of_val {xs : List Sp} (h : Val (-1) xs) (hl : xs.length ≤ 4096) : chk xs = 0 := by
  unfold chk
  rw [if_neg (by omega)]
  exact (val_chk (by omega)).2 h

def endOf (l : Int) : List Sp → Int
  | [] => l
  | s :: r => endOf s.2 r
theorem val_snoc {l : Int} {xs : List Sp} {s : Sp} : Val l (xs ++ [s]) ↔ Val l xs ∧ endOf l xs < s.1 ∧ s.1 < s.2 ∧ s.2 ≤ 1073741824 := by
  induction xs generalizing l with
  | nil => simp [Val, endOf]
  | cons t r ih => simp only [List.cons_append, Val, endOf, ih]; constructor <;> (intro h; simp only [h, and_self])
theorem endOf_snoc {l : Int} {xs : List Sp} {s : Sp} : endOf l (xs ++ [s]) = s.2 := by
  induction xs generalizing l with
  | nil => rfl
  | cons t r ih => exact ih
theorem hasB_app {xs ys : List Sp} {i : Int} : hasB (xs ++ ys) i = (hasB xs i || hasB ys i) := by
  induction xs with
  | nil => rfl
  | cons s r ih => simp only [List.cons_append, hasB, ih]; split <;> simp
theorem hasB_one {s : Sp} {i : Int} : hasB [s] i = decide (s.1 ≤ i ∧ i < s.2) := by
  unfold hasB hasB
  split <;> rename_i h
  · exact (decide_eq_true h).symm
  · exact (decide_eq_false h).symm
theorem hasB_cons {s : Sp} {r : List Sp} {i : Int} : hasB (s :: r) i = (decide (s.1 ≤ i ∧ i < s.2) || hasB r i) := by
  rw [← hasB_one]; exact hasB_app (xs := [s])
theorem hasB_lo {l : Int} {xs : List Sp} {i : Int} (h : Val l xs) (hi : i ≤ l) : hasB xs i = false := by
  induction xs generalizing l with
  | nil => rfl
  | cons s r ih =>
    obtain ⟨h1, h2, h3, h4⟩ := h
    rw [hasB_cons, ih h4 (by omega), decide_eq_false (by omega)]; rfl
theorem endOf_ge {l : Int} {xs : List Sp} (h : Val l xs) : l ≤ endOf l xs := by
  induction xs generalizing l with
  | nil => exact Int.le_refl _
  | cons s r ih => obtain ⟨h1, h2, h3, h4⟩ := h; have := ih h4; show l ≤ endOf s.2 r; omega
theorem endOf_le {l : Int} {xs : List Sp} (h : Val l xs) (hl : l ≤ 1073741824) : endOf l xs ≤ 1073741824 := by
  induction xs generalizing l with
  | nil => exact hl
  | cons s r ih => obtain ⟨h1, h2, h3, h4⟩ := h; exact ih h4 h3
theorem hasB_hi {l : Int} {xs : List Sp} {i : Int} (h : Val l xs) (hi : endOf l xs ≤ i) : hasB xs i = false := by
  induction xs generalizing l with
  | nil => rfl
  | cons s r ih =>
    obtain ⟨h1, h2, h3, h4⟩ := h
    have := endOf_ge h4
    have hi' : endOf s.2 r ≤ i := hi
    rw [hasB_cons, ih h4 hi', decide_eq_false (by omega)]; rfl

/-- each set has one list -/
theorem val_ext {l : Int} {xs ys : List Sp} (hx : Val l xs) (hy : Val l ys) (h : ∀ i, hasB xs i = hasB ys i) : xs = ys := by
  induction xs generalizing l ys with
  | nil =>
    cases ys with
    | nil => rfl
    | cons t u =>
      have := h t.1
      obtain ⟨h1, h2, h3, h4⟩ := hy
      rw [hasB_cons, decide_eq_true (by omega)] at this
      simp [hasB] at this
  | cons s r ih =>
    cases ys with
    | nil =>
      have := h s.1
      obtain ⟨h1, h2, h3, h4⟩ := hx
      rw [hasB_cons, decide_eq_true (by omega)] at this
      simp [hasB] at this
    | cons t u =>
      obtain ⟨a1, a2, a3, a4⟩ := hx
      obtain ⟨b1, b2, b3, b4⟩ := hy
      have e1 : s.1 = t.1 := by
        rcases Int.lt_trichotomy s.1 t.1 with hlt | he | hgt
        · have := h s.1
          rw [hasB_cons, hasB_cons, decide_eq_true (by omega), decide_eq_false (by omega), hasB_lo b4 (by omega)] at this
          simp at this
        · exact he
        · have := h t.1
          rw [hasB_cons, hasB_cons, decide_eq_false (by omega), decide_eq_true (by omega), hasB_lo a4 (by omega)] at this
          simp at this
      have e2 : s.2 = t.2 := by
        rcases Int.lt_trichotomy s.2 t.2 with hlt | he | hgt
        · have := h s.2
          rw [hasB_cons, hasB_cons, decide_eq_false (by omega), decide_eq_true (by omega), hasB_lo a4 (by omega)] at this
          simp at this
        · exact he
        · have := h t.2
          rw [hasB_cons, hasB_cons, decide_eq_true (by omega), decide_eq_false (by omega), hasB_lo b4 (by omega)] at this
          simp at this
      have e : s = t := Prod.ext e1 e2
      subst e
      rw [ih a4 b4 (fun i => ?_)]
      by_cases hi : i ≤ s.2
      · rw [hasB_lo a4 hi, hasB_lo b4 hi]
      · have := h i
        rwa [hasB_cons, hasB_cons, decide_eq_false (by omega), Bool.false_or, Bool.false_or] at this

/-- the last span neither begins behind p nor ends behind q -/
def LastLe (out : List Sp) (p q : Int) : Prop := ∀ ys t, out = ys ++ [t] → t.1 ≤ p ∧ t.2 ≤ q
theorem LastLe.nil {p q : Int} : LastLe [] p q := fun ys t h => by simp at h
theorem LastLe.mono {out : List Sp} {p q p' q' : Int} (h : LastLe out p q) (hp : p ≤ p') (hq : q ≤ q') : LastLe out p' q' := fun ys t e => by
  have := h ys t e; omega

theorem addS_set {out : List Sp} {p q : Int} (hv : Val (-1) out) (h : p < q → 0 ≤ p ∧ q ≤ 1073741824 ∧ LastLe out p q) :
    Val (-1) (addS out (p, q)) ∧ (∀ i, hasB (addS out (p, q)) i = (hasB out i || decide (p ≤ i ∧ i < q))) ∧ (p < q → LastLe (addS out (p, q)) p q) := by
  by_cases hpq : p < q
  · obtain ⟨h0, hq, hl⟩ := h hpq
    rcases List.eq_nil_or_concat out with rfl | ⟨ys, t, rfl⟩
    · rw [addS_app (t := (0, 0)) hpq rfl (.inl rfl)]
      refine ⟨⟨by show -1 < p; omega, hpq, hq, trivial⟩, fun i => by rw [hasB_app, hasB_one], fun _ ys t e => ?_⟩
      have e' : (p, q) = t := by
        cases ys with
        | nil => simpa using e
        | cons a b => simp at e
      subst e'
      exact ⟨Int.le_refl _, Int.le_refl _⟩
    · rw [List.concat_eq_append] at *
      obtain ⟨ht1, ht2⟩ := hl ys t rfl
      obtain ⟨v1, v2, v3, v4⟩ := val_snoc.1 hv
      have hge := endOf_ge v1
      have hget : (ys ++ [t]).getD ((ys ++ [t]).length - 1) (0, 0) = t := by simp [List.getD]
      by_cases h2 : p ≤ t.2
      · rw [addS_join hpq (by simp) hget h2]
        have hset : (ys ++ [t]).set ((ys ++ [t]).length - 1) (t.1, q) = ys ++ [(t.1, q)] := by simp
        simp only [hset]
        refine ⟨val_snoc.2 ⟨v1, v2, by show t.1 < q; omega, hq⟩, fun i => ?_, fun _ zs u e => ?_⟩
        · rw [hasB_app, hasB_app, hasB_one, hasB_one]
          rw [Bool.eq_iff_iff]
          simp only [Bool.or_eq_true, decide_eq_true_eq]
          constructor
          · rintro (hh | hh)
            · exact .inl (.inl hh)
            · by_cases hi : i < t.2
              · exact .inl (.inr ⟨hh.1, hi⟩)
              · exact .inr ⟨by omega, hh.2⟩
          · rintro ((hh | hh) | hh)
            · exact .inl hh
            · exact .inr ⟨hh.1, by show i < q; omega⟩
            · exact .inr ⟨by show t.1 ≤ i; omega, hh.2⟩
        · obtain ⟨_, e2⟩ := List.append_inj' e rfl
          have e3 : (t.1, q) = u := by simpa using e2
          subst e3
          exact ⟨ht1, Int.le_refl _⟩
      · rw [addS_app hpq hget (.inr (by show t.2 < p; omega))]
        refine ⟨val_snoc.2 ⟨hv, by rw [endOf_snoc]; show t.2 < p; omega, hpq, hq⟩, fun i => by rw [hasB_app, hasB_one], fun _ zs u e => ?_⟩
        obtain ⟨_, e2⟩ := List.append_inj' e rfl
        have e3 : (p, q) = u := by simpa using e2
        subst e3
        exact ⟨Int.le_refl _, Int.le_refl _⟩
  · rw [addS_no (by show q ≤ p; omega)]
    exact ⟨hv, fun i => by rw [decide_eq_false (by omega), Bool.or_false], fun h' => absurd h' hpq⟩

theorem val_len {l : Int} {xs : List Sp} (h : Val l xs) : (xs.length : Int) ≤ endOf l xs - l := by
  induction xs generalizing l with
  | nil => simp [endOf]
  | cons s r ih => obtain ⟨h1, h2, h3, h4⟩ := h; have := ih h4; simp only [List.length_cons, endOf]; omega
theorem val_len' {xs : List Sp} (h : Val (-1) xs) : xs.length ≤ 1073741825 := by
  have h1 := val_len h; have h2 := endOf_le h (by omega); omega

/-- What is left of a set when a sweep is at a place. -/
structure Rest (y0 ys : List Sp) (a : Int) : Prop where
  val : ∃ l, l ≤ a ∧ Val l ys
  head : ∀ s r, ys = s :: r → a ≤ s.2
  same : ∀ i, a ≤ i → hasB ys i = hasB y0 i
theorem Rest.start {y0 : List Sp} (h : Val (-1) y0) : Rest y0 y0 0 :=
  ⟨⟨-1, by omega, h⟩, fun s r e => by subst e; obtain ⟨h1, h2, _⟩ := h; omega, fun _ _ => rfl⟩
theorem Rest.pop {y0 r : List Sp} {s : Sp} {a : Int} (h : Rest y0 (s :: r) a) (e : s.2 = a) : Rest y0 r a := by
  obtain ⟨l, hl, h1, h2, h3, h4⟩ := h.val
  refine ⟨⟨s.2, by omega, h4⟩, fun t u et => ?_, fun i hi => ?_⟩
  · subst et; obtain ⟨g1, g2, _⟩ := h4; omega
  · rw [← h.same i hi, hasB_cons, decide_eq_false (by omega)]; rfl
theorem Rest.str {y0 ys : List Sp} {a : Int} (h : Rest y0 ys a) (hne : ∀ s r, ys = s :: r → s.2 ≠ a) (ha : a < 1073741824) :
    a < strEnd ys a ∧ strEnd ys a ≤ 1073741824 ∧ ∀ e, a < e → e ≤ strEnd ys a → Rest y0 ys e ∧ ∀ i, a ≤ i → i < e → hasB y0 i = strIn ys a := by
  cases ys with
  | nil =>
    refine ⟨ha, Int.le_refl _, fun e h1 h2 => ⟨⟨⟨a, by omega, trivial⟩, fun s r e => (by cases e), fun i hi => h.same i (by omega)⟩, fun i h3 h4 => ?_⟩⟩
    rw [← h.same i h3]; rfl
  | cons s r =>
    have hs := h.head s r rfl
    have hn := hne s r rfl
    obtain ⟨l, hl, h1, h2, h3, h4⟩ := h.val
    by_cases hc : a < s.1
    · rw [strEnd_lt hc]
      refine ⟨hc, by omega, fun e h5 h6 => ⟨⟨⟨l, by omega, h1, h2, h3, h4⟩, fun t u et => (by cases et; omega), fun i hi => h.same i (by omega)⟩, fun i h7 h8 => ?_⟩⟩
      rw [← h.same i h7, strIn_lt hc, hasB_cons, decide_eq_false (by omega), hasB_lo h4 (by omega)]; rfl
    · rw [strEnd_ge (by omega)]
      refine ⟨by omega, h3, fun e h5 h6 => ⟨⟨⟨l, by omega, h1, h2, h3, h4⟩, fun t u et => (by cases et; omega), fun i hi => h.same i (by omega)⟩, fun i h7 h8 => ?_⟩⟩
      rw [← h.same i h7, strIn_ge (by omega), hasB_cons, decide_eq_true (by omega)]; rfl

/-- The sweep's state. -/
structure Sw (keep : Bool → Bool → Bool) (a0 b0 ya yb out : List Sp) (a : Int) : Prop where
  lo : 0 ≤ a
  hi : a ≤ 1073741824
  ra : Rest a0 ya a
  rb : Rest b0 yb a
  vo : Val (-1) out
  ho : ∀ i, hasB out i = (decide (0 ≤ i ∧ i < a) && keep (hasB a0 i) (hasB b0 i))
  last : LastLe out a a
theorem Sw.start {keep : Bool → Bool → Bool} {a0 b0 : List Sp} (ha : Val (-1) a0) (hb : Val (-1) b0) : Sw keep a0 b0 a0 b0 [] 0 :=
  ⟨by omega, by omega, .start ha, .start hb, trivial, fun i => by rw [decide_eq_false (by omega)]; rfl, .nil⟩
theorem Sw.pop_a {keep : Bool → Bool → Bool} {a0 b0 r yb out : List Sp} {s : Sp} {a : Int} (h : Sw keep a0 b0 (s :: r) yb out a) (e : s.2 = a) : Sw keep a0 b0 r yb out a :=
  ⟨h.lo, h.hi, h.ra.pop e, h.rb, h.vo, h.ho, h.last⟩
theorem Sw.pop_b {keep : Bool → Bool → Bool} {a0 b0 r ya out : List Sp} {s : Sp} {a : Int} (h : Sw keep a0 b0 ya (s :: r) out a) (e : s.2 = a) : Sw keep a0 b0 ya r out a :=
  ⟨h.lo, h.hi, h.ra, h.rb.pop e, h.vo, h.ho, h.last⟩
theorem Sw.step {keep : Bool → Bool → Bool} {a0 b0 ya yb out : List Sp} {a : Int} (h : Sw keep a0 b0 ya yb out a)
    (hna : ∀ s r, ya = s :: r → s.2 ≠ a) (hnb : ∀ s r, yb = s :: r → s.2 ≠ a) (hne : ¬ (ya = [] ∧ yb = [])) :
    a < min (strEnd ya a) (strEnd yb a) ∧ min (strEnd ya a) (strEnd yb a) ≤ 1073741824 ∧
    Sw keep a0 b0 ya yb (if keep (strIn ya a) (strIn yb a) = true then addS out (a, min (strEnd ya a) (strEnd yb a)) else out) (min (strEnd ya a) (strEnd yb a)) := by
  have hM : a < 1073741824 := by
    have key : ∀ (y0 : List Sp) ys, Rest y0 ys a → (∀ s r, ys = s :: r → s.2 ≠ a) → ys ≠ [] → a < 1073741824 := by
      intro y0 ys hr hn he
      cases ys with
      | nil => exact absurd rfl he
      | cons s r =>
        have := hr.head s r rfl
        have := hn s r rfl
        obtain ⟨l, hl, h1, h2, h3, h4⟩ := hr.val
        omega
    by_cases he : ya = []
    · exact key b0 yb h.rb hnb (fun e => hne ⟨he, e⟩)
    · exact key a0 ya h.ra hna he
  obtain ⟨p1, p2, p3⟩ := h.ra.str hna hM
  obtain ⟨q1, q2, q3⟩ := h.rb.str hnb hM
  generalize hA : strEnd ya a = ea at *
  generalize hB : strEnd yb a = eb at *
  have hlt : a < min ea eb := by omega
  obtain ⟨r1, r2⟩ := p3 (min ea eb) hlt (by omega)
  obtain ⟨s1, s2⟩ := q3 (min ea eb) hlt (by omega)
  have hle : min ea eb ≤ 1073741824 := by omega
  generalize min ea eb = e at *
  clear hA hB p3 q3
  refine ⟨hlt, hle, ?_⟩
  have hlo := h.lo
  have hsp : ∀ i, (hasB out i || (keep (strIn ya a) (strIn yb a) && decide (a ≤ i ∧ i < e))) = (decide (0 ≤ i ∧ i < e) && keep (hasB a0 i) (hasB b0 i)) := by
    intro i
    rw [h.ho i]
    by_cases h1 : 0 ≤ i ∧ i < a
    · rw [decide_eq_true h1, decide_eq_true (p := 0 ≤ i ∧ i < e) (by omega), decide_eq_false (p := a ≤ i ∧ i < e) (by omega)]
      simp
    · by_cases h2 : a ≤ i ∧ i < e
      · rw [decide_eq_false h1, decide_eq_true (p := 0 ≤ i ∧ i < e) (by omega), decide_eq_true h2, r2 i h2.1 h2.2, s2 i h2.1 h2.2]
        simp
      · rw [decide_eq_false h1, decide_eq_false (p := 0 ≤ i ∧ i < e) (by omega), decide_eq_false h2]
        simp
  by_cases hk : keep (strIn ya a) (strIn yb a) = true
  · rw [if_pos hk]
    obtain ⟨g1, g2, g3⟩ := addS_set (out := out) (p := a) (q := e) h.vo (fun _ => ⟨by omega, hle, h.last.mono (Int.le_refl _) (by omega)⟩)
    refine ⟨by omega, hle, r1, s1, g1, fun i => ?_, (g3 hlt).mono (by omega) (Int.le_refl _)⟩
    rw [g2 i, ← hsp i, hk]; simp
  · rw [if_neg hk]
    refine ⟨by omega, hle, r1, s1, h.vo, fun i => ?_, h.last.mono (by omega) (by omega)⟩
    rw [← hsp i, Bool.eq_false_iff.2 hk]; simp
theorem Sw.stop {keep : Bool → Bool → Bool} {a0 b0 out : List Sp} {a : Int} (h : Sw keep a0 b0 [] [] out a) (ha : Val (-1) a0) (hb : Val (-1) b0) (hk : keep false false = false) :
    ∀ i, hasB out i = keep (hasB a0 i) (hasB b0 i) := by
  intro i
  rw [h.ho i]
  by_cases h1 : 0 ≤ i ∧ i < a
  · rw [decide_eq_true h1]; simp
  · rw [decide_eq_false h1]
    rcases Int.lt_or_le i 0 with h2 | h2
    · rw [hasB_lo ha (by omega), hasB_lo hb (by omega), hk]; rfl
    · rw [← h.ra.same i (by omega), ← h.rb.same i (by omega)]
      show _ = keep false false
      rw [hk]; rfl

theorem val_take {l : Int} {xs : List Sp} (h : Val l xs) {k : Nat} (hk : k < xs.length) : endOf l (xs.take k) < xs[k].1 ∧ xs[k].1 < xs[k].2 ∧ xs[k].2 ≤ 1073741824 := by
  induction xs generalizing l k with
  | nil => simp at hk
  | cons s r ih =>
    obtain ⟨h1, h2, h3, h4⟩ := h
    cases k with
    | zero => exact ⟨h1, h2, h3⟩
    | succ k => exact ih h4 (by simpa using hk)
end Go.Proofs.YtbdjpacmbaoaeaaDoor.S
