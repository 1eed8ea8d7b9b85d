/- How many spans and places sets have that come out of the operations, of insertions and of removals. -/
import Derived.Test.YtbkfebnggomhdaaCnt
import Derived.Test.YtbkfebnggomhdaaMove
namespace Go.Proofs.Ytbkfebnggomhdaa

/-- does a set begin or end at i -/
def chg (f : Int → Bool) (i : Int) : Bool := f i != f (i - 1)
theorem chg_congr {f g : Int → Bool} (h : ∀ i, f i = g i) (i : Int) : chg f i = chg g i := by unfold chg; rw [h, h]
theorem cntN_point {a : Int} {n : Nat} (h0 : 0 ≤ a) (h1 : a < n) : cntN (fun i => decide (i = a)) n = 1 := by
  have e : cntN (fun i => decide (i = a)) n = cntN (fun i => decide (a ≤ i ∧ i < a + 1)) n := cntN_congr (fun i _ _ => by rw [decide_eq_decide]; omega)
  rw [e, cntN_iv h0 (by omega)]; omega
theorem chg_len {l : Int} {xs : List Sp} (h : Val l xs) (hl : -1 ≤ l) : cntN (chg (hasB xs)) 1073741825 = 2 * xs.length := by
  induction xs generalizing l with
  | nil => exact cntN_none (fun _ _ _ => rfl)
  | cons s r ih =>
    obtain ⟨h1, h2, h3, h4⟩ := h
    have e : cntN (chg (hasB (s :: r))) 1073741825 = cntN (fun i => (decide (i = s.1) || decide (i = s.2)) || chg (hasB r) i) 1073741825 := cntN_congr (fun i _ _ => by
      unfold chg
      rw [hasB_cons, hasB_cons]
      by_cases hi : i ≤ s.2
      · rw [hasB_lo h4 hi, hasB_lo h4 (by omega), Bool.or_false, Bool.or_false]
        rw [Bool.eq_iff_iff]
        simp only [bne_iff_ne, ne_eq, decide_eq_decide, Bool.or_eq_true, decide_eq_true_eq, not_true_eq_false, or_false]
        omega
      · rw [decide_eq_false (p := s.1 ≤ i ∧ i < s.2) (by omega), decide_eq_false (p := s.1 ≤ i - 1 ∧ i - 1 < s.2) (by omega), decide_eq_false (p := i = s.1) (by omega), decide_eq_false (p := i = s.2) (by omega)]
        simp)
    rw [e, cntN_add (fun i _ _ => ?_), cntN_add (fun i _ _ => ?_), cntN_point (by omega) (by omega), cntN_point (by omega) (by omega), ih h4 (by omega)]
    · simp only [List.length_cons]; omega
    · by_cases hi : i = s.1
      · rw [decide_eq_true hi, decide_eq_false (p := i = s.2) (by omega)]; rfl
      · rw [decide_eq_false hi]; rfl
    · by_cases hi : i ≤ s.2
      · have : chg (hasB r) i = false := by unfold chg; rw [hasB_lo h4 hi, hasB_lo h4 (by omega)]; rfl
        rw [this, Bool.and_false]
      · rw [decide_eq_false (p := i = s.1) (by omega), decide_eq_false (p := i = s.2) (by omega)]; rfl
theorem cntN_le {f g : Int → Bool} : ∀ {n : Nat}, (∀ i : Int, f i = true → g i = true) → cntN f n ≤ cntN g n
  | 0, _ => Int.le_refl _
  | n + 1, h => by
    have := cntN_le (n := n) h
    unfold cntN
    by_cases hf : f n = true
    · rw [if_pos hf, if_pos (h _ hf)]; omega
    · rw [if_neg hf]; split <;> omega
theorem cntN_ge (f : Int → Bool) : ∀ n : Nat, 0 ≤ cntN f n
  | 0 => Int.le_refl _
  | n + 1 => by
    have := cntN_ge f n
    unfold cntN; split <;> omega
/-- an operation makes no more spans than there were -/
theorem op_len {keep : Bool → Bool → Bool} {xs ys out : List Sp} (hx : Val (-1) xs) (hy : Val (-1) ys) (ho : Val (-1) out) (h : ∀ i, hasB out i = keep (hasB xs i) (hasB ys i)) : out.length ≤ xs.length + ys.length := by
  have h1 := chg_len hx (by omega)
  have h2 := chg_len hy (by omega)
  have h3 := chg_len ho (by omega)
  have h4 : cntN (chg (hasB out)) 1073741825 ≤ cntN (fun i => chg (hasB xs) i || chg (hasB ys) i) 1073741825 := cntN_le (fun i hi => by
    unfold chg at *
    rw [h, h] at hi
    revert hi
    generalize hasB xs i = p
    generalize hasB xs (i - 1) = p'
    generalize hasB ys i = q
    generalize hasB ys (i - 1) = q'
    cases p <;> cases p' <;> cases q <;> cases q' <;> simp)
  have h5 := cntN_or (chg (hasB xs)) (chg (hasB ys)) 1073741825
  have h6 := cntN_ge (fun i => chg (hasB xs) i && chg (hasB ys) i) 1073741825
  omega

theorem ins_ex {xs : List Sp} {a n : Int} (hv : Val (-1) xs) (ha : 0 ≤ a) (hn : 0 ≤ n) (hroom : endOf (-1) xs ≤ a ∨ endOf (-1) xs + n ≤ 1073741824) : ∀ k, k ≤ xs.length → ∃ out, In a n (xs.take k) out ∧ out.length ≤ 2 * k
  | 0, _ => ⟨[], In.start a n, by simp⟩
  | k + 1, hk => by
    have hlt : k < xs.length := by omega
    obtain ⟨out, hi, hl⟩ := ins_ex hv ha hn hroom k (by omega)
    obtain ⟨v1, v2, v3⟩ := val_take hv hlt
    have hve := val_end hv hlt
    have hs := hi.step ha hn v1 v2 v3 (fun h => by omega)
    rw [show xs.take (k + 1) = xs.take k ++ [xs[k]] from by rw [List.take_succ_eq_append_getElem hlt]]
    refine ⟨_, hs, ?_⟩
    have l1 := addS_len out (xs[k].1, min xs[k].2 a)
    split
    · have l2 := addS_len (addS out (xs[k].1, min xs[k].2 a)) (max xs[k].1 a + n, xs[k].2 + n)
      omega
    · omega
theorem ins_len {xs out : List Sp} {a n : Int} (hv : Val (-1) xs) (ha : 0 ≤ a) (hn : 0 ≤ n) (hroom : endOf (-1) xs ≤ a ∨ endOf (-1) xs + n ≤ 1073741824) (ho : Val (-1) out) (h : ∀ i, hasB out i = insM xs a n i) : out.length ≤ 2 * xs.length := by
  obtain ⟨o2, hi, hl⟩ := ins_ex hv ha hn hroom xs.length (Nat.le_refl _)
  have h1 := hi.ho
  rw [List.take_length] at h1
  obtain rfl : out = o2 := val_ext ho hi.vo (fun i => (h i).trans (h1 i).symm)
  exact hl
theorem rem_ex {xs : List Sp} {a n : Int} (hv : Val (-1) xs) (ha : 0 ≤ a) (ha2 : a ≤ 1073741824) (hn : 0 ≤ n) : ∀ k, k ≤ xs.length → ∃ out, Rm a n (xs.take k) out ∧ out.length ≤ 2 * k
  | 0, _ => ⟨[], Rm.start a n, by simp⟩
  | k + 1, hk => by
    have hlt : k < xs.length := by omega
    obtain ⟨out, hi, hl⟩ := rem_ex hv ha ha2 hn k (by omega)
    obtain ⟨v1, v2, v3⟩ := val_take hv hlt
    have hs := hi.step ha ha2 hn v1 v2 v3
    rw [show xs.take (k + 1) = xs.take k ++ [xs[k]] from by rw [List.take_succ_eq_append_getElem hlt]]
    refine ⟨_, hs, ?_⟩
    have l1 := addS_len out (xs[k].1, min xs[k].2 a)
    have l2 := addS_len (addS out (xs[k].1, min xs[k].2 a)) (max xs[k].1 (a + min n (1073741824 - a)) - n, xs[k].2 - n)
    omega
theorem rem_len {xs out : List Sp} {a n : Int} (hv : Val (-1) xs) (ha : 0 ≤ a) (ha2 : a ≤ 1073741824) (hn : 0 ≤ n) (ho : Val (-1) out) (h : ∀ i, hasB out i = remM xs a n i) : out.length ≤ 2 * xs.length := by
  obtain ⟨o2, hi, hl⟩ := rem_ex hv ha ha2 hn xs.length (Nat.le_refl _)
  have h1 := hi.ho
  rw [List.take_length] at h1
  obtain rfl : out = o2 := val_ext ho hi.vo (fun i => (h i).trans (h1 i).symm)
  exact hl

theorem cntN_shift (g : Int → Bool) (n : Nat) : ∀ m : Nat, cntN (fun i => g (i + n)) m + cntN g n = cntN g (m + n)
  | 0 => by show (0 : Int) + _ = _; rw [Nat.zero_add]; omega
  | m + 1 => by
    have := cntN_shift g n m
    rw [show m + 1 + n = (m + n) + 1 from by omega]
    show cntN (fun i => g (i + n)) m + (if g ((m : Int) + (n : Int)) = true then 1 else 0) + cntN g n = cntN g (m + n) + (if g ((m + n : Nat) : Int) = true then 1 else 0)
    rw [show ((m + n : Nat) : Int) = (m : Int) + (n : Int) from by omega]
    omega
theorem cntN_more {f : Int → Bool} {n : Nat} (h : ∀ i : Int, (n : Int) ≤ i → f i = false) : ∀ m : Nat, cntN f (n + m) = cntN f n
  | 0 => rfl
  | m + 1 => by
    have := cntN_more h m
    show cntN f (n + m) + (if f ((n + m : Nat) : Int) = true then 1 else 0) = _
    rw [this, h ((n + m : Nat) : Int) (by omega)]; simp
theorem val_hi {xs : List Sp} {i : Int} (h : Val (-1) xs) (hi : 1073741824 ≤ i) : hasB xs i = false := hasB_hi h (by have := endOf_le h (by omega); omega)
theorem rem_cntG (f G : Int → Bool) (M m : Nat) (a : Int) (ha : 0 ≤ a) (hz : ∀ i : Int, (M : Int) ≤ i → f i = false) (hG : ∀ j, G j = (f j && decide (a + m ≤ j))) :
    cntN (fun i => if i < a then f i else f (i + m)) M = cntN f M - cntN (fun i => f i && decide (a ≤ i ∧ i < a + m)) M := by
  have e1 : cntN (fun i => if i < a then f i else f (i + m)) M = cntN (fun i => (f i && decide (i < a)) || G (i + m)) M := cntN_congr (fun i _ _ => by
    rw [hG]
    by_cases hi : i < a
    · rw [if_pos hi, decide_eq_true hi, decide_eq_false (p := a + (m : Int) ≤ i + m) (by omega)]; simp
    · rw [if_neg hi, decide_eq_false hi, decide_eq_true (p := a + (m : Int) ≤ i + m) (by omega)]; simp)
  have e2 : cntN f M = cntN (fun i => ((f i && decide (i < a)) || G i) || (f i && decide (a ≤ i ∧ i < a + m))) M := cntN_congr (fun i _ _ => by
    rw [hG]
    cases f i
    · rfl
    · simp only [Bool.true_and]
      by_cases h1 : i < a
      · rw [decide_eq_true h1]; rfl
      · by_cases h2 : a + (m : Int) ≤ i
        · rw [decide_eq_true h2]; simp
        · rw [decide_eq_true (p := a ≤ i ∧ i < a + m) (by omega)]; simp)
  have e3 := cntN_shift G m M
  have e4 := cntN_more (f := G) (n := M) (fun i hi => by rw [hG, hz i hi]; rfl) m
  have e5 : cntN G m = 0 := cntN_none (fun i _ hi => by rw [hG, decide_eq_false (by omega), Bool.and_false])
  have e6 : cntN (fun i => (f i && decide (i < a)) || G (i + m)) M = cntN (fun i => f i && decide (i < a)) M + cntN (fun i => G (i + m)) M := cntN_add (fun i _ _ => by
    rw [hG]
    by_cases h1 : i < a
    · rw [decide_eq_false (p := a + (m : Int) ≤ i + m) (by omega)]; simp
    · rw [decide_eq_false h1]; simp)
  have e7 : cntN (fun i => ((f i && decide (i < a)) || G i) || (f i && decide (a ≤ i ∧ i < a + m))) M = cntN (fun i => (f i && decide (i < a)) || G i) M + cntN (fun i => f i && decide (a ≤ i ∧ i < a + m)) M := cntN_add (fun i _ _ => by
    rw [hG]
    by_cases h1 : a ≤ i ∧ i < a + m
    · rw [decide_eq_false (p := i < a) (by omega), decide_eq_false (p := a + (m : Int) ≤ i) (by omega)]; simp
    · rw [decide_eq_false h1]; simp)
  have e8 : cntN (fun i => (f i && decide (i < a)) || G i) M = cntN (fun i => f i && decide (i < a)) M + cntN G M := cntN_add (fun i _ _ => by
    rw [hG]
    by_cases h1 : i < a
    · rw [decide_eq_false (p := a + (m : Int) ≤ i) (by omega)]; simp
    · rw [decide_eq_false h1]; simp)
  rw [e1, e6, e2, e7, e8]
  omega
/-- how many places go -/
theorem rem_cnt {xs out : List Sp} {a n : Int} (hv : Val (-1) xs) (ha : 0 ≤ a) (hn : 0 ≤ n) (ho : Val (-1) out) (h : ∀ i, hasB out i = remM xs a n i) :
    sumB 0 out = sumB 0 xs - cntN (fun i => hasB xs i && decide (a ≤ i ∧ i < a + n)) 1073741824 := by
  obtain ⟨m, rfl⟩ := Int.eq_ofNat_of_zero_le hn
  rw [sumB_cnt hv (by omega), sumB_cnt ho (by omega), ← rem_cntG (hasB xs) (fun j => hasB xs j && decide (a + m ≤ j)) 1073741824 m a ha (fun i hi => val_hi hv hi) (fun _ => rfl)]
  exact cntN_congr (fun i _ _ => h i)
/-- nothing goes where something comes in -/
theorem ins_cnt {xs out : List Sp} {a n : Int} (hv : Val (-1) xs) (ha : 0 ≤ a) (hn : 0 ≤ n) (ho : Val (-1) out) (h : ∀ i, hasB out i = insM xs a n i) :
    sumB 0 out = sumB 0 xs := by
  have hb : ∀ i, hasB xs i = remM out a n i := fun i => by
    unfold remM
    rw [h, h]
    unfold insM
    by_cases hi : i < a
    · rw [if_pos hi, if_pos hi]
    · rw [if_neg hi, if_neg (by omega), if_neg (by omega), show i + n - n = i from by omega]
  have h1 := rem_cnt ho ha hn hv hb
  have h2 : cntN (fun i => hasB out i && decide (a ≤ i ∧ i < a + n)) 1073741824 = 0 := cntN_none (fun i _ _ => by
    by_cases hi : a ≤ i ∧ i < a + n
    · rw [h]; unfold insM; rw [if_neg (by omega), if_pos (by omega)]; rfl
    · rw [decide_eq_false hi, Bool.and_false])
  omega
theorem back_same {xs out : List Sp} {a n : Int} (_hn : 0 ≤ n) (h : ∀ i, hasB out i = insM xs a n i) (i : Int) : remM out a n i = hasB xs i := by
  unfold remM
  rw [h, h]
  unfold insM
  by_cases hi : i < a
  · rw [if_pos hi, if_pos hi]
  · rw [if_neg hi, if_neg (by omega), if_neg (by omega), show i + n - n = i from by omega]

/-- how many of the places from a to e - 1 are in the first k spans -/
def goneTo (xs : List Sp) (a e : Int) : Nat → Int
  | 0 => 0
  | k + 1 => goneTo xs a e k + max 0 (min (xs.getD k (0, 0)).2 e - max (xs.getD k (0, 0)).1 a)
theorem goneTo_cnt {xs : List Sp} {a n : Int} (hv : Val (-1) xs) (ha : 0 ≤ a) (hn : 0 ≤ n) : ∀ k, k ≤ xs.length → goneTo xs a (a + n) k = cntN (fun i => hasB (xs.take k) i && decide (a ≤ i ∧ i < a + n)) 1073741824
  | 0, _ => (cntN_none (fun _ _ _ => rfl)).symm
  | k + 1, hk => by
    have hlt : k < xs.length := by omega
    have ih := goneTo_cnt hv ha hn k (by omega)
    obtain ⟨v1, v2, v3⟩ := val_take hv hlt
    have hvt : Val (-1) (xs.take k) := val_pre hv k
    have hge := endOf_ge hvt
    have hget : xs.getD k (0, 0) = xs[k] := by simp [List.getD, List.getElem?_eq_getElem hlt]
    have htk : xs.take (k + 1) = xs.take k ++ [xs[k]] := by rw [List.take_succ_eq_append_getElem hlt]
    unfold goneTo
    rw [hget, ih, htk]
    generalize xs[k] = s at *
    have e : cntN (fun i => hasB (xs.take k ++ [s]) i && decide (a ≤ i ∧ i < a + n)) 1073741824 = cntN (fun i => (hasB (xs.take k) i && decide (a ≤ i ∧ i < a + n)) || decide (max s.1 a ≤ i ∧ i < max (max s.1 a) (min s.2 (a + n)))) 1073741824 := cntN_congr (fun i _ _ => by
      rw [hasB_app, hasB_one]
      cases hasB (xs.take k) i
      · simp only [Bool.false_or, Bool.false_and]
        rw [Bool.eq_iff_iff]; simp only [Bool.and_eq_true, decide_eq_true_eq]; omega
      · simp only [Bool.true_or, Bool.true_and]
        rw [Bool.eq_iff_iff]; simp only [Bool.or_eq_true, decide_eq_true_eq]; omega)
    rw [e, cntN_add (fun i _ _ => ?_), cntN_iv (by omega) (by omega)]
    · omega
    · by_cases hi : max s.1 a ≤ i ∧ i < max (max s.1 a) (min s.2 (a + n))
      · rw [hasB_hi hvt (by omega)]; rfl
      · rw [decide_eq_false hi, Bool.and_false]
where
  val_pre {xs : List Sp} (h : Val (-1) xs) (k : Nat) : Val (-1) (xs.take k) := by
    have key : ∀ (l : Int) (ys : List Sp) (k : Nat), Val l ys → Val l (ys.take k) := by
      intro l ys
      induction ys generalizing l with
      | nil => intro k _; simp [Val]
      | cons s r ih =>
        intro k h
        cases k with
        | zero => trivial
        | succ k => obtain ⟨h1, h2, h3, h4⟩ := h; exact ⟨h1, h2, h3, ih s.2 k h4⟩
    exact key _ _ _ h
theorem gone_all {xs out : List Sp} {a n : Int} (hv : Val (-1) xs) (ha : 0 ≤ a) (hn : 0 ≤ n) (ho : Val (-1) out) (h : ∀ i, hasB out i = remM xs a n i) : sumB 0 out = sumB 0 xs - goneTo xs a (a + n) xs.length := by
  rw [rem_cnt hv ha hn ho h, goneTo_cnt hv ha hn xs.length (Nat.le_refl _), List.take_length]
end Go.Proofs.Ytbkfebnggomhdaa
