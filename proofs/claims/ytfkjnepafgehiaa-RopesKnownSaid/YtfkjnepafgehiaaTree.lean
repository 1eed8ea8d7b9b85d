/- Plain mathematics of balanced trees of sizes. No program. -/
import Derived.Test.YtfkjnepafgehiaaFPlain
namespace Go.Proofs.Ytfkjnepafgehiaa

/-- a tree of sizes -/
inductive T where
  | nil
  | node (l : T) (s : Int) (r : T)
namespace T
def count : T → Nat
  | nil => 0
  | node l _ r => l.count + 1 + r.count
def total : T → Int
  | nil => 0
  | node l s r => l.total + s + r.total
def depth : T → Nat
  | nil => 0
  | node l _ r => max l.depth r.depth + 1
def list : T → List Int
  | nil => []
  | node l s r => l.list ++ s :: r.list
/-- the depths of the sides differ by at most 1, everywhere -/
def Bal : T → Prop
  | nil => True
  | node l _ r => l.Bal ∧ r.Bal ∧ l.depth ≤ r.depth + 1 ∧ r.depth ≤ l.depth + 1

theorem len (t : T) : t.list.length = t.count := by
  induction t with
  | nil => rfl
  | node l s r hl hr => simp [list, count, hl, hr]; omega
theorem sum (t : T) : t.list.sum = t.total := by
  induction t with
  | nil => rfl
  | node l s r hl hr => simp [list, total, hl, hr]; omega
theorem depth_zero {t : T} (h : t.depth = 0) : t = nil := by
  cases t with
  | nil => rfl
  | node l s r => simp [depth] at h
theorem count_zero {t : T} (h : t.count = 0) : t = nil := by
  cases t with
  | nil => rfl
  | node l s r => simp [count] at h
theorem depth_pos {t : T} (h : 0 < t.depth) : ∃ l s r, t = node l s r := by
  cases t with
  | nil => simp [depth] at h
  | node l s r => exact ⟨l, s, r, rfl⟩
theorem count_pos {t : T} (h : 0 < t.count) : ∃ l s r, t = node l s r := by
  cases t with
  | nil => simp [count] at h
  | node l s r => exact ⟨l, s, r, rfl⟩
theorem depth_le (t : T) : t.depth ≤ t.count := by
  induction t with
  | nil => exact Nat.le_refl _
  | node l s r hl hr => simp only [depth, count]; omega
end T

/-- How many sizes a tree of a depth has at least. -/
def F : Nat → Nat
  | 0 => 0
  | 1 => 1
  | n + 2 => F (n + 1) + F n + 1
theorem F_succ (n : Nat) : F n ≤ F (n + 1) := by
  induction n using Nat.strongRecOn with
  | _ n ih =>
    match n with
    | 0 => decide
    | 1 => decide
    | n + 2 =>
      have a : F (n + 1) ≤ F (n + 2) := ih (n + 1) (by omega)
      have b := ih n (by omega)
      show F (n + 2) ≤ F (n + 3)
      have e1 : F (n + 2) = F (n + 1) + F n + 1 := rfl
      have e2 : F (n + 3) = F (n + 2) + F (n + 1) + 1 := rfl
      omega
theorem F_mono {a b : Nat} (h : a ≤ b) : F a ≤ F b := by
  induction b with
  | zero => simp at h; subst h; exact Nat.le_refl _
  | succ b ih =>
    rcases Nat.eq_or_lt_of_le h with e | e
    · subst e; exact Nat.le_refl _
    · exact Nat.le_trans (ih (by omega)) (F_succ b)
theorem T.F_le {t : T} (h : t.Bal) : F t.depth ≤ t.count := by
  induction t with
  | nil => exact Nat.le_refl _
  | node l s r hl hr =>
    obtain ⟨bl, br, h1, h2⟩ := h
    have a := hl bl
    have b := hr br
    simp only [T.depth, T.count]
    rcases Nat.le_total l.depth r.depth with e | e
    · rw [Nat.max_eq_right e]
      rcases Nat.eq_zero_or_pos r.depth with z | z
      · rw [z]; simp [F]; omega
      · obtain ⟨k, hk⟩ : ∃ k, r.depth = k + 1 := ⟨r.depth - 1, by omega⟩
        have : F (r.depth + 1) = F r.depth + F k + 1 := by rw [hk]; rfl
        have := F_mono (a := k) (b := l.depth) (by omega)
        omega
    · rw [Nat.max_eq_left e]
      rcases Nat.eq_zero_or_pos l.depth with z | z
      · rw [z]; simp [F]; omega
      · obtain ⟨k, hk⟩ : ∃ k, l.depth = k + 1 := ⟨l.depth - 1, by omega⟩
        have : F (l.depth + 1) = F l.depth + F k + 1 := by rw [hk]; rfl
        have := F_mono (a := k) (b := r.depth) (by omega)
        omega
theorem T.depth_16 {t : T} (h : t.Bal) (hc : t.count ≤ 4096) : t.depth ≤ 16 := by
  rcases Nat.lt_or_ge 16 t.depth with e | e
  · have h1 := F_mono (a := 17) (b := t.depth) e
    have h2 : F 17 = 4180 := by decide
    have := T.F_le h
    omega
  · exact e

/-- Sizes that are put together stay in their range. -/
structure Ok (l : List Int) : Prop where
  nn : ∀ x ∈ l, 0 ≤ x
  sum : l.sum ≤ 4611686018427387904
  len : l.length ≤ 4096
theorem sum_nn {l : List Int} (h : ∀ x ∈ l, 0 ≤ x) : 0 ≤ l.sum := by
  induction l with
  | nil => exact Int.le_refl _
  | cons a r ih =>
    have h1 := h a (by simp)
    have h2 := ih fun x hx => h x (by simp [hx])
    simp only [List.sum_cons]
    omega
theorem sum_sub {a b : List Int} (hs : a.Sublist b) (h : ∀ x ∈ b, 0 ≤ x) : a.sum ≤ b.sum := by
  induction hs with
  | slnil => exact Int.le_refl _
  | cons x hs ih =>
    have h1 := h x (by simp)
    have h2 := ih fun y hy => h y (by simp [hy])
    simp only [List.sum_cons]
    omega
  | cons_cons x hs ih =>
    have h2 := ih fun y hy => h y (by simp [hy])
    simp only [List.sum_cons]
    omega
theorem Ok.sub {a b : List Int} (h : Ok b) (hs : a.Sublist b) : Ok a :=
  ⟨fun x hx => h.nn x (hs.subset hx), Int.le_trans (sum_sub hs h.nn) h.sum, Nat.le_trans hs.length_le h.len⟩
theorem Ok.lo {a : List Int} (h : Ok a) : 0 ≤ a.sum := sum_nn h.nn
theorem Ok.app {a b : List Int} (h : Ok (a ++ b)) : Ok a ∧ Ok b := ⟨h.sub (List.sublist_append_left a b), h.sub (List.sublist_append_right a b)⟩
theorem Ok.mid {a b : List Int} {s : Int} (h : Ok (a ++ s :: b)) : Ok a ∧ Ok b ∧ 0 ≤ s ∧ s ≤ 4611686018427387904 ∧ a.sum + s + b.sum ≤ 4611686018427387904 ∧ a.length + 1 + b.length ≤ 4096 := by
  have h1 := h.app.1
  have h2 : Ok b := h.app.2.sub (List.sublist_cons_self s b)
  have h3 := h.nn s (by simp)
  have h4 := h.sum
  have h5 := h.len
  have h6 := h1.lo
  have h7 := h2.lo
  simp at h4 h5
  exact ⟨h1, h2, h3, by omega, by omega, by omega⟩
theorem T.bounds {t : T} (h : Ok t.list) : 0 ≤ t.total ∧ t.total ≤ 4611686018427387904 ∧ t.count ≤ 4096 ∧ t.depth ≤ 4096 := by
  have h1 := h.lo
  have h2 := h.sum
  have h3 := h.len
  rw [T.sum] at h1 h2
  rw [T.len] at h3
  have := t.depth_le
  exact ⟨h1, h2, h3, by omega⟩
theorem T.parts {l r : T} {s : Int} (h : Ok (T.node l s r).list) : Ok l.list ∧ Ok r.list ∧ 0 ≤ s ∧ s ≤ 4611686018427387904 ∧ l.total + s + r.total ≤ 4611686018427387904 ∧ l.count + 1 + r.count ≤ 4096 := by
  have := Ok.mid (h : Ok (l.list ++ s :: r.list))
  rwa [T.sum, T.sum, T.len, T.len] at this

/-- Valid lists keep their range. -/
theorem Vd.ok {l : List Int} (h : Vd l) : Ok l := by
  refine ⟨fun x hx => ?_, ?_, h.len⟩
  · obtain ⟨k, hk, rfl⟩ := List.getElem_of_mem hx
    exact (h.each k hk).1
  · have := h.sum
    rwa [pre, List.take_of_length_le (Nat.le_refl _)] at this
theorem vd_of {l : List Int} (h : Ok l) (he : ∀ x ∈ l, x ≤ 2305843009213693952) : Vd l :=
  ⟨h.len, fun k hk => ⟨h.nn _ (List.getElem_mem hk), he _ (List.getElem_mem hk)⟩, by rw [pre, List.take_of_length_le (Nat.le_refl _)]; exact h.sum⟩
theorem Vd.hi1 {l : List Int} (h : Vd l) : ∀ x ∈ l, x ≤ 2305843009213693952 := fun x hx => by
  obtain ⟨k, hk, rfl⟩ := List.getElem_of_mem hx
  exact (h.each k hk).2
theorem Vd.sub {a b : List Int} (h : Vd b) (hs : a.Sublist b) : Vd a := vd_of (h.ok.sub hs) fun x hx => h.hi1 x (hs.subset hx)

/-- The depth of a tree that is made by halves. -/
def halfD (n : Nat) : Nat := if n = 0 then 0 else halfD (n / 2) + 1
termination_by n
decreasing_by omega
theorem halfD_zero : halfD 0 = 0 := by rw [halfD]; rfl
theorem halfD_pos {n : Nat} (h : 0 < n) : halfD n = halfD (n / 2) + 1 := by rw [halfD, if_neg (by omega)]
theorem halfD_step (n : Nat) : halfD n ≤ halfD (n + 1) ∧ halfD (n + 1) ≤ halfD n + 1 := by
  induction n using Nat.strongRecOn with
  | _ n ih =>
    rcases Nat.eq_zero_or_pos n with h | h
    · subst h
      rw [halfD_pos (n := 0 + 1) (by omega), show (0 + 1) / 2 = 0 from rfl, halfD_zero]
      omega
    · rw [halfD_pos h, halfD_pos (n := n + 1) (by omega)]
      have := ih (n / 2) (by omega)
      by_cases e : (n + 1) / 2 = n / 2
      · rw [e]; omega
      · rw [show (n + 1) / 2 = n / 2 + 1 by omega]; omega
/-- the two halves around the middle one -/
theorem halfD_split {n : Nat} (h : 0 < n) : halfD n = max (halfD (n / 2)) (halfD (n - n / 2 - 1)) + 1 ∧ halfD (n / 2) ≤ halfD (n - n / 2 - 1) + 1 ∧ halfD (n - n / 2 - 1) ≤ halfD (n / 2) + 1 := by
  have a := halfD_step (n - n / 2 - 1)
  rw [halfD_pos h]
  by_cases e : n - n / 2 - 1 = n / 2
  · rw [e, Nat.max_self]; omega
  · rw [show n / 2 = n - n / 2 - 1 + 1 by omega]
    have : n - (n - n / 2 - 1 + 1) - 1 = n - n / 2 - 1 := by omega
    rw [this, Nat.max_eq_left (by omega)]; omega

/-- The depth of a tree whose sides may differ by 2: what balance makes of it. -/
def BalD (dl dr d : Nat) : Prop := (dl ≤ dr + 1 ∧ dr ≤ dl + 1 ∧ d = max dl dr + 1) ∨ ((dl = dr + 2 ∨ dr = dl + 2) ∧ (d = max dl dr ∨ d = max dl dr + 1))
end Go.Proofs.Ytfkjnepafgehiaa
