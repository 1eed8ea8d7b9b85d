/-
  The plain functions that the walks speak of: lists and integers alone.
-/
namespace Go.Proofs.YtbdjpacmbaoaeaaDoor.S
/-- A span, or a pair of numbers. -/
abbrev Sp := Int × Int

def chkFrom (last : Int) : List Sp → Int
  | [] => 0
  | s :: r => if s.1 < 0 ∨ s.2 ≤ s.1 ∨ 1073741824 < s.2 then 1 else if s.1 ≤ last then 16 else chkFrom s.2 r
/-- the error of a set -/
def chk (xs : List Sp) : Int := if 4096 < xs.length then 3 else chkFrom (-1) xs

theorem chkFrom_drop {last : Int} {xs : List Sp} {k : Nat} (h : k < xs.length) :
    chkFrom last (xs.drop k) = if xs[k].1 < 0 ∨ xs[k].2 ≤ xs[k].1 ∨ 1073741824 < xs[k].2 then 1 else if xs[k].1 ≤ last then 16 else chkFrom xs[k].2 (xs.drop (k + 1)) := by
  rw [List.drop_eq_getElem_cons h]; rfl
theorem chkFrom_end {last : Int} {xs : List Sp} {k : Nat} (h : xs.length ≤ k) : chkFrom last (xs.drop k) = 0 := by
  rw [List.drop_eq_nil_of_le h]; rfl

/-- the end of the span ahead of the k-th -/
def prevB (xs : List Sp) : Nat → Int
  | 0 => -1
  | j + 1 => (xs.getD j (0, 0)).2
theorem prevB_zero {xs : List Sp} {k : Nat} (h : k ≤ 0) : prevB xs k = -1 := by
  obtain rfl : k = 0 := by omega
  rfl
theorem prevB_pos {xs : List Sp} {k : Nat} (h : 0 < k) (hk : k - 1 < xs.length) : prevB xs k = xs[k - 1].2 := by
  obtain ⟨j, rfl⟩ : ∃ j, k = j + 1 := ⟨k - 1, by omega⟩
  have hj : j < xs.length := by omega
  show (xs.getD j (0, 0)).2 = _
  simp [List.getD, List.getElem?_eq_getElem hj]
theorem prevB_succ {xs : List Sp} {k : Nat} (h : k < xs.length) : prevB xs (k + 1) = xs[k].2 := by
  show (xs.getD k (0, 0)).2 = _
  simp [List.getD, List.getElem?_eq_getElem h]
/-- is a place in one of some spans -/
def hasB : List Sp → Int → Bool
  | [], _ => false
  | s :: r, i => if s.1 ≤ i ∧ i < s.2 then true else hasB r i
theorem hasB_drop {i : Int} {xs : List Sp} {k : Nat} (h : k < xs.length) :
    hasB (xs.drop k) i = if xs[k].1 ≤ i ∧ i < xs[k].2 then true else hasB (xs.drop (k + 1)) i := by
  rw [List.drop_eq_getElem_cons h]; rfl
theorem hasB_end {i : Int} {xs : List Sp} {k : Nat} (h : xs.length ≤ k) : hasB (xs.drop k) i = false := by
  rw [List.drop_eq_nil_of_le h]; rfl

/-- how many places, added up -/
def sumB (acc : Int) : List Sp → Int
  | [] => acc
  | s :: r => sumB (acc + (s.2 - s.1)) r
theorem sumB_drop {acc : Int} {xs : List Sp} {k : Nat} (h : k < xs.length) :
    sumB acc (xs.drop k) = sumB (acc + (xs[k].2 - xs[k].1)) (xs.drop (k + 1)) := by
  rw [List.drop_eq_getElem_cons h]; rfl
theorem sumB_end {acc : Int} {xs : List Sp} {k : Nat} (h : xs.length ≤ k) : sumB acc (xs.drop k) = acc := by
  rw [List.drop_eq_nil_of_le h]; rfl

def cnt (xs : List Sp) : Int := if chk xs = 0 then sumB 0 xs else 0
theorem cnt_ok {xs : List Sp} (h : chk xs = 0) : cnt xs = sumB 0 xs := if_pos h
theorem cnt_no {xs : List Sp} (h : ¬ chk xs = 0) : cnt xs = 0 := if_neg h
def hasS (xs : List Sp) (i : Int) : Bool := decide (chk xs = 0) && hasB xs i
theorem hasS_ok {xs : List Sp} {i : Int} (h : chk xs = 0) : hasS xs i = hasB xs i := by simp [hasS, h]
theorem hasS_no {xs : List Sp} {i : Int} (h : ¬ chk xs = 0) : hasS xs i = false := by simp [hasS, h]
theorem chkFrom_ne {a : Int} {xs : List Sp} (h : chkFrom a xs = 0) : ∀ (k : Nat) (hk : k < xs.length), 0 ≤ xs[k].1 ∧ xs[k].1 < xs[k].2 ∧ xs[k].2 ≤ 1073741824 := by
  induction xs generalizing a with
  | nil => intro k hk; simp at hk
  | cons s r ih =>
    unfold chkFrom at h
    split at h
    · omega
    · split at h
      · omega
      · intro k hk
        cases k with
        | zero => simp only [List.getElem_cons_zero]; omega
        | succ k => simpa using ih h k (by simpa using hk)
theorem chk_len {xs : List Sp} (h : chk xs = 0) : xs.length ≤ 4096 := by
  unfold chk at h
  split at h <;> omega
theorem chk_from {xs : List Sp} (h : chk xs = 0) : chkFrom (-1) xs = 0 := by
  unfold chk at h
  split at h
  · omega
  · exact h
theorem chk_get {xs : List Sp} (h : chk xs = 0) : ∀ (k : Nat) (hk : k < xs.length), 0 ≤ xs[k].1 ∧ xs[k].1 < xs[k].2 ∧ xs[k].2 ≤ 1073741824 :=
  chkFrom_ne (chk_from h)

/-- a span is appended; spans that touch become one -/
def addS (l : List Sp) (s : Sp) : List Sp :=
  if s.2 ≤ s.1 then l else if 0 < l.length ∧ s.1 ≤ (l.getD (l.length - 1) (0, 0)).2 then l.set (l.length - 1) ((l.getD (l.length - 1) (0, 0)).1, s.2) else l ++ [s]
theorem addS_no {l : List Sp} {s : Sp} (h : s.2 ≤ s.1) : addS l s = l := if_pos h
theorem addS_join {l : List Sp} {s t : Sp} (h : s.1 < s.2) (hl : 0 < l.length) (ht : l.getD (l.length - 1) (0, 0) = t) (h2 : s.1 ≤ t.2) : addS l s = l.set (l.length - 1) (t.1, s.2) := by
  unfold addS
  rw [if_neg (by omega), ht, if_pos ⟨hl, h2⟩]
theorem addS_app {l : List Sp} {s t : Sp} (h : s.1 < s.2) (ht : l.getD (l.length - 1) (0, 0) = t) (h2 : l.length = 0 ∨ t.2 < s.1) : addS l s = l ++ [s] := by
  unfold addS
  rw [if_neg (by omega), ht, if_neg (by omega)]
theorem addS_len (l : List Sp) (s : Sp) : (addS l s).length ≤ l.length + 1 := by
  unfold addS
  split
  · omega
  · split <;> simp

/-- may a number be a place or a number of places -/
def okP (x : Int) : Bool := decide (0 ≤ x ∧ x ≤ 1073741824)
theorem okP_t {x : Int} (h1 : 0 ≤ x) (h2 : x ≤ 1073741824) : okP x = true := decide_eq_true ⟨h1, h2⟩
theorem okP_f {x : Int} (h : x < 0 ∨ 1073741824 < x) : okP x = false := decide_eq_false (by omega)

def strIn : List Sp → Int → Bool
  | [], _ => false
  | s :: _, a => decide (s.1 ≤ a)
def strEnd : List Sp → Int → Int
  | [], _ => 1073741824
  | s :: _, a => if a < s.1 then s.1 else s.2
theorem strIn_lt {s : Sp} {r : List Sp} {a : Int} (h : a < s.1) : strIn (s :: r) a = false := decide_eq_false (by omega)
theorem strIn_ge {s : Sp} {r : List Sp} {a : Int} (h : s.1 ≤ a) : strIn (s :: r) a = true := decide_eq_true h
theorem strEnd_lt {s : Sp} {r : List Sp} {a : Int} (h : a < s.1) : strEnd (s :: r) a = s.1 := if_pos h
theorem strEnd_ge {s : Sp} {r : List Sp} {a : Int} (h : s.1 ≤ a) : strEnd (s :: r) a = s.2 := if_neg (by omega)
end Go.Proofs.YtbdjpacmbaoaeaaDoor.S
