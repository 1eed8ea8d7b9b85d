/- Plain mathematics: longest rising subsequences. No program. -/
namespace Go.Proofs.Ytejgcpohdbiaoaa

/-- the greatest length of a rising subsequence whose numbers are greater than x -/
def mx (x : Int) : List Int → Nat
  | [] => 0
  | y :: r => if x < y then max (mx y r + 1) (mx x r) else mx x r
/-- the lengths from each position on -/
def lenF : List Int → List Nat
  | [] => []
  | y :: r => (mx y r + 1) :: lenF r
/-- the greatest of them -/
def top : List Int → Nat
  | [] => 0
  | y :: r => max (top r) (mx y r + 1)
/-- the positions that are taken: at each the first at which as much begins as is still needed -/
def sel : List Nat → Nat → Nat → List Nat
  | [], _, _ => []
  | c :: cs, i, b => if b = 0 then [] else if c = b then i :: sel cs (i + 1) (b - 1) else sel cs (i + 1) b
def longR (l : List Int) : List Nat := sel (lenF l) 0 (top l)

theorem lenF_len (l : List Int) : (lenF l).length = l.length := by
  induction l with
  | nil => rfl
  | cons y r ih => simp [lenF, ih]
theorem lenF_drop (l : List Int) (i : Nat) : (lenF l).drop i = lenF (l.drop i) := by
  induction l generalizing i with
  | nil => simp [lenF]
  | cons y r ih =>
    cases i with
    | zero => rfl
    | succ i => simpa [lenF] using ih i
theorem mx_le (x : Int) (l : List Int) : mx x l ≤ l.length := by
  induction l generalizing x with
  | nil => simp [mx]
  | cons y r ih =>
    have h1 := ih x
    have h2 := ih y
    simp only [mx, List.length_cons]
    split <;> omega
theorem top_le (l : List Int) : top l ≤ l.length := by
  induction l with
  | nil => simp [top]
  | cons y r ih =>
    have h2 := mx_le y r
    simp only [top, List.length_cons]
    omega
theorem mx_top (x : Int) (l : List Int) : mx x l ≤ top l := by
  induction l generalizing x with
  | nil => simp [mx]
  | cons y r ih =>
    have h1 := ih x
    simp only [mx, top]
    split <;> omega
theorem mx_mono {x x' : Int} (h : x ≤ x') (l : List Int) : mx x' l ≤ mx x l := by
  induction l with
  | nil => simp [mx]
  | cons y r ih =>
    simp only [mx]
    by_cases h1 : x' < y
    · rw [if_pos h1, if_pos (by omega)]; omega
    · rw [if_neg h1]
      split <;> omega
theorem top_mx {M : Int} {l : List Int} (h : ∀ y ∈ l, M < y) : top l = mx M l := by
  induction l with
  | nil => rfl
  | cons y r ih =>
    simp only [mx, top]
    rw [if_pos (h y (by simp)), ih fun z hz => h z (by simp [hz])]
    omega

/-! the reference's inner loop -/
def acc (x : Int) : List Int → List Nat → Nat → Nat
  | y :: r, c :: cs, a => acc x r cs (if x < y ∧ a < c + 1 then c + 1 else a)
  | _, _, a => a
theorem acc_mx (x : Int) (l : List Int) (a : Nat) (ha : 1 ≤ a) : acc x l (lenF l) a = max a (mx x l + 1) := by
  induction l generalizing a with
  | nil => simp [acc, mx]; omega
  | cons y r ih =>
    simp only [acc, lenF, mx]
    by_cases h1 : x < y
    · rw [if_pos h1]
      by_cases h2 : a < mx y r + 1 + 1
      · rw [if_pos ⟨h1, h2⟩, ih _ (by omega)]; omega
      · rw [if_neg (fun h => h2 h.2), ih _ ha]; omega
    · rw [if_neg h1, if_neg (fun h => h1 h.1), ih _ ha]
theorem acc_step (x : Int) {l : List Int} {j : Nat} (h : j < l.length) (a : Nat) :
    acc x (l.drop j) (lenF (l.drop j)) a = acc x (l.drop (j + 1)) (lenF (l.drop (j + 1))) (if x < l[j] ∧ a < mx l[j] (l.drop (j + 1)) + 1 + 1 then mx l[j] (l.drop (j + 1)) + 1 + 1 else a) := by
  rw [List.drop_eq_getElem_cons h]
  rfl
theorem acc_end (x : Int) (a : Nat) : acc x [] (lenF []) a = a := rfl

/-! the program's falling list -/
/-- at k is the greatest number with which one of the length k + 1 begins -/
structure Fst (F : List Int) (r : List Int) : Prop where
  len : F.length = top r
  at_ : ∀ (x : Int) (k : Nat) (h : k < F.length), x < F[k] ↔ k < mx x r
theorem Fst.nil : Fst [] [] := ⟨rfl, fun _ _ h => absurd h (by simp)⟩
theorem Fst.set {F r : List Int} (h : Fst F r) {y : Int} (hlt : mx y r < top r) : Fst (F.set (mx y r) y) (y :: r) := by
  have hl := h.len
  refine ⟨by simp only [List.length_set, top, hl]; omega, fun x k hk => ?_⟩
  rw [List.length_set] at hk
  have ih := h.at_ x k hk
  have iy := h.at_ y k hk
  simp only [mx]
  rw [List.getElem_set]
  by_cases e : mx y r = k
  · rw [if_pos e]
    by_cases hx : x < y
    · rw [if_pos hx]; exact ⟨fun _ => by omega, fun _ => hx⟩
    · have := mx_mono (x := y) (x' := x) (by omega) r
      rw [if_neg hx]; exact ⟨fun h => absurd h hx, fun h => by omega⟩
  · rw [if_neg e, ih]
    by_cases hx : x < y
    · rw [if_pos hx]
      constructor
      · intro h; omega
      · intro h
        rcases Nat.lt_or_ge k (mx y r) with h2 | h2
        · exact ih.1 (by have := iy.2 h2; omega)
        · omega
    · rw [if_neg hx]
theorem Fst.push {F r : List Int} (h : Fst F r) {y : Int} (heq : mx y r = top r) : Fst (F ++ [y]) (y :: r) := by
  have hl := h.len
  refine ⟨by simp only [List.length_append, List.length_singleton, top, hl]; omega, fun x k hk => ?_⟩
  simp only [List.length_append, List.length_singleton] at hk
  simp only [mx]
  by_cases e : k = F.length
  · subst e
    rw [List.getElem_append_right (Nat.le_refl _)]
    simp only [Nat.sub_self, List.getElem_singleton]
    by_cases hx : x < y
    · rw [if_pos hx]; exact ⟨fun _ => by omega, fun _ => hx⟩
    · have := mx_mono (x := y) (x' := x) (by omega) r
      rw [if_neg hx]; exact ⟨fun h => absurd h hx, fun h => by omega⟩
  · have hk' : k < F.length := by omega
    rw [List.getElem_append_left hk']
    have ih := h.at_ x k hk'
    have iy := h.at_ y k hk'
    rw [ih]
    by_cases hx : x < y
    · rw [if_pos hx]
      constructor
      · intro h; omega
      · intro h
        exact ih.1 (by have := iy.2 (by omega); omega)
    · rw [if_neg hx]

/-! what is taken -/
theorem need_pick {x y : Int} {r : List Int} {b : Nat} (h : mx x (y :: r) = b) (hc : mx y r + 1 = b) : x < y := by
  simp only [mx] at h
  by_cases hx : x < y
  · exact hx
  · rw [if_neg hx] at h
    have := mx_mono (x := y) (x' := x) (by omega) r
    omega
theorem need_skip {x y : Int} {r : List Int} {b : Nat} (h : mx x (y :: r) = b) (hc : mx y r + 1 ≠ b) : mx x r = b := by
  simp only [mx] at h
  split at h <;> omega

/-- a rising subsequence's positions, beyond x, from i on -/
def Ris (x : Int) : Nat → List Int → List Nat → Prop
  | _, [], S => S = []
  | i, y :: r, S => (∃ S', S = i :: S' ∧ x < y ∧ Ris y (i + 1) r S') ∨ Ris x (i + 1) r S
theorem Ris.lo {x : Int} {i : Nat} {l : List Int} {S : List Nat} (h : Ris x i l S) : ∀ p ∈ S, i ≤ p ∧ p < i + l.length := by
  induction l generalizing x i S with
  | nil => simp only [Ris] at h; subst h; simp
  | cons y r ih =>
    intro p hp
    rcases h with ⟨S', rfl, _, h⟩ | h
    · rcases List.mem_cons.1 hp with rfl | hp
      · simp
      · have := ih h p hp; simp only [List.length_cons]; omega
    · have := ih h p hp; simp only [List.length_cons]; omega
theorem Ris.len {x : Int} {i : Nat} {l : List Int} {S : List Nat} (h : Ris x i l S) : S.length ≤ mx x l := by
  induction l generalizing x i S with
  | nil => simp only [Ris] at h; subst h; simp
  | cons y r ih =>
    simp only [mx]
    rcases h with ⟨S', rfl, hx, h⟩ | h
    · have := ih h; rw [if_pos hx, List.length_cons]; omega
    · have := ih h
      split <;> omega
theorem Ris.sel (x : Int) (i : Nat) (l : List Int) : Ris x i l (sel (lenF l) i (mx x l)) ∧ (Ytejgcpohdbiaoaa.sel (lenF l) i (mx x l)).length = mx x l := by
  induction l generalizing x i with
  | nil => simp [lenF, mx, Ytejgcpohdbiaoaa.sel, Ris]
  | cons y r ih =>
    obtain ⟨b, hb⟩ : ∃ b, mx x (y :: r) = b := ⟨_, rfl⟩
    rw [hb]
    simp only [lenF, Ytejgcpohdbiaoaa.sel]
    by_cases h0 : b = 0
    · rw [if_pos h0]
      refine ⟨.inr ?_, by simp [h0]⟩
      have h1 : mx x r = 0 := by simp only [mx] at hb; split at hb <;> omega
      have h2 := ih x (i + 1)
      rw [h1] at h2
      have h3 : Ytejgcpohdbiaoaa.sel (lenF r) (i + 1) 0 = [] := by
        cases r <;> simp [lenF, Ytejgcpohdbiaoaa.sel]
      rw [h3] at h2
      exact h2.1
    · rw [if_neg h0]
      by_cases hc : mx y r + 1 = b
      · rw [if_pos hc]
        have h2 := ih y (i + 1)
        rw [show b - 1 = mx y r by omega]
        exact ⟨.inl ⟨_, rfl, need_pick hb hc, h2.1⟩, by rw [List.length_cons, h2.2]; exact hc⟩
      · rw [if_neg hc]
        have h1 := need_skip hb hc
        have h2 := ih x (i + 1)
        rw [h1] at h2
        exact ⟨.inr h2.1, h2.2⟩
/-- the first one is the less one where they part -/
def Lex : List Nat → List Nat → Prop
  | s :: S, t :: T => s < t ∨ (s = t ∧ Lex S T)
  | _, _ => True
theorem Ris.lex {x : Int} {i : Nat} {l : List Int} {T : List Nat} (h : Ris x i l T) (hl : T.length = mx x l) : Lex (Ytejgcpohdbiaoaa.sel (lenF l) i (mx x l)) T := by
  induction l generalizing x i T with
  | nil => simp [lenF, Ytejgcpohdbiaoaa.sel, Lex]
  | cons y r ih =>
    obtain ⟨b, hb⟩ : ∃ b, mx x (y :: r) = b := ⟨_, rfl⟩
    rw [hb] at hl ⊢
    simp only [lenF, Ytejgcpohdbiaoaa.sel]
    by_cases h0 : b = 0
    · rw [if_pos h0]; simp [Lex]
    · rw [if_neg h0]
      by_cases hc : mx y r + 1 = b
      · rw [if_pos hc]
        rcases h with ⟨S', rfl, hx, h⟩ | h
        · rw [List.length_cons] at hl
          rw [show b - 1 = mx y r by omega]
          exact .inr ⟨rfl, ih h (by omega)⟩
        · cases T with
          | nil => trivial
          | cons t T => exact .inl (by have := h.lo t (by simp); omega)
      · rw [if_neg hc]
        have h1 := need_skip hb hc
        rcases h with ⟨S', rfl, hx, h⟩ | h
        · have := h.len
          simp only [mx, if_pos hx] at hb
          rw [List.length_cons] at hl
          omega
        · have := ih h (by omega)
          rw [h1] at this
          exact this

/-- positions by index -/
structure RsI (x : Int) (i : Nat) (l : List Int) (S : List Nat) : Prop where
  at_ : ∀ p ∈ S, i ≤ p ∧ ∃ h : p - i < l.length, x < l[p - i]
  up : S.Pairwise fun p q => p < q ∧ ∃ (h : p - i < l.length) (h' : q - i < l.length), l[p - i] < l[q - i]
theorem RsI.ris {x : Int} {i : Nat} {l : List Int} {S : List Nat} (h : RsI x i l S) : Ris x i l S := by
  induction l generalizing x i S with
  | nil =>
    cases S with
    | nil => rfl
    | cons p S => obtain ⟨_, h, _⟩ := h.at_ p (by simp); simp at h
  | cons y r ih =>
    have down : ∀ (x' : Int) (T : List Nat), (∀ p ∈ T, i < p ∧ ∃ h : p - i < (y :: r).length, x' < (y :: r)[p - i]) → (T.Pairwise fun p q => p < q ∧ ∃ (h : p - i < (y :: r).length) (h' : q - i < (y :: r).length), (y :: r)[p - i] < (y :: r)[q - i]) → RsI x' (i + 1) r T := by
      intro x' T h1 h2
      have key : ∀ p (hp : i < p) (h : p - i < (y :: r).length), ∃ h' : p - (i + 1) < r.length, (y :: r)[p - i] = r[p - (i + 1)] := by
        intro p hp h
        have h3 : p - (i + 1) < r.length := by simp only [List.length_cons] at h; omega
        refine ⟨h3, ?_⟩
        have e : p - i = (p - (i + 1)) + 1 := by omega
        simp only [e, List.getElem_cons_succ]
      refine ⟨fun p hp => ?_, ?_⟩
      · obtain ⟨a, b, c⟩ := h1 p hp
        obtain ⟨h', e⟩ := key p a b
        exact ⟨a, h', by rw [← e]; exact c⟩
      · refine h2.imp_of_mem fun {p q} hp hq ⟨a, b, c, d⟩ => ?_
        obtain ⟨h3, e3⟩ := key p (h1 p hp).1 b
        obtain ⟨h4, e4⟩ := key q (h1 q hq).1 c
        exact ⟨a, h3, h4, by rw [← e3, ← e4]; exact d⟩
    cases S with
    | nil => exact .inr (ih (down x [] (by simp) List.Pairwise.nil))
    | cons p S =>
      obtain ⟨h1, h2⟩ := List.pairwise_cons.1 h.up
      obtain ⟨a, b, c⟩ := h.at_ p (by simp)
      by_cases e : p = i
      · subst e
        simp only [Nat.sub_self, List.getElem_cons_zero] at c
        refine .inl ⟨S, rfl, c, ih (down y S (fun q hq => ?_) h2)⟩
        obtain ⟨d, _, e2, e3⟩ := h1 q hq
        simp only [Nat.sub_self, List.getElem_cons_zero] at e3
        exact ⟨d, e2, e3⟩
      · refine .inr (ih (down x (p :: S) (fun q hq => ?_) h.up))
        rcases List.mem_cons.1 hq with rfl | hq'
        · exact ⟨by omega, b, c⟩
        · obtain ⟨d, _⟩ := h1 q hq'
          obtain ⟨_, e4, e5⟩ := h.at_ q (by simp [hq'])
          exact ⟨by omega, e4, e5⟩
theorem Ris.rsI {x : Int} {i : Nat} {l : List Int} {S : List Nat} (h : Ris x i l S) : RsI x i l S := by
  induction l generalizing x i S with
  | nil => simp only [Ris] at h; subst h; exact ⟨by simp, List.Pairwise.nil⟩
  | cons y r ih =>
    have key : ∀ p (hp : i + 1 ≤ p) (h : p - (i + 1) < r.length), ∃ h' : p - i < (y :: r).length, (y :: r)[p - i] = r[p - (i + 1)] := by
      intro p hp h
      refine ⟨by simp only [List.length_cons]; omega, ?_⟩
      have e : p - i = (p - (i + 1)) + 1 := by omega
      simp only [e, List.getElem_cons_succ]
    rcases h with ⟨S', rfl, hx, h⟩ | h
    · have h2 := ih h
      refine ⟨fun p hp => ?_, List.pairwise_cons.2 ⟨fun q hq => ?_, ?_⟩⟩
      · rcases List.mem_cons.1 hp with rfl | hp
        · exact ⟨Nat.le_refl _, by simp, by simpa using hx⟩
        · obtain ⟨a, b, c⟩ := h2.at_ p hp
          obtain ⟨h', e⟩ := key p a b
          exact ⟨by omega, h', by rw [e]; omega⟩
      · obtain ⟨a, b, c⟩ := h2.at_ q hq
        obtain ⟨h', e⟩ := key q a b
        exact ⟨by omega, by simp, h', by rw [e]; simpa using c⟩
      · refine h2.up.imp_of_mem fun {p q} hp hq ⟨a, b, c, d⟩ => ?_
        obtain ⟨h3, e3⟩ := key p (h2.at_ p hp).1 b
        obtain ⟨h4, e4⟩ := key q (h2.at_ q hq).1 c
        exact ⟨a, h3, h4, by rw [e3, e4]; exact d⟩
    · have h2 := ih h
      refine ⟨fun p hp => ?_, ?_⟩
      · obtain ⟨a, b, c⟩ := h2.at_ p hp
        obtain ⟨h', e⟩ := key p a b
        exact ⟨by omega, h', by rw [e]; exact c⟩
      · refine h2.up.imp_of_mem fun {p q} hp hq ⟨a, b, c, d⟩ => ?_
        obtain ⟨h3, e3⟩ := key p (h2.at_ p hp).1 b
        obtain ⟨h4, e4⟩ := key q (h2.at_ q hq).1 c
        exact ⟨a, h3, h4, by rw [e3, e4]; exact d⟩

/-- a rising sublist is no longer -/
theorem sub_mx {s l : List Int} (h : s.Sublist l) : ∀ {x : Int}, (∀ y ∈ s, x < y) → s.Pairwise (· < ·) → s.length ≤ mx x l := by
  induction h with
  | slnil => intro x _ _; simp
  | cons y _ ih =>
    intro x h1 h2
    have := ih h1 h2
    simp only [mx]
    split <;> omega
  | cons_cons y _ ih =>
    intro x h1 h2
    obtain ⟨h3, h4⟩ := List.pairwise_cons.1 h2
    have := ih (x := y) h3 h4
    simp only [mx, if_pos (h1 y (by simp)), List.length_cons]
    omega
/-- a number below all of a list -/
theorem ex_below (l : List Int) : ∃ M : Int, ∀ y ∈ l, M < y := by
  induction l with
  | nil => exact ⟨0, by simp⟩
  | cons y r ih =>
    obtain ⟨M, h⟩ := ih
    refine ⟨if M < y then M else y - 1, fun z hz => ?_⟩
    rcases List.mem_cons.1 hz with rfl | hz
    · split <;> omega
    · have := h z hz
      split <;> omega
/-- what Longest returns -/
structure Longest (l : List Int) (S : List Nat) : Prop where
  lt : ∀ p ∈ S, p < l.length
  up : S.Pairwise (· < ·)
  rise : S.Pairwise fun p q => ∃ (h : p < l.length) (h' : q < l.length), l[p] < l[q]
  len : S.length = top l
theorem longR_longest (l : List Int) : Longest l (longR l) := by
  obtain ⟨M, hM⟩ := ex_below l
  have h0 := Ris.sel M 0 l
  rw [← top_mx hM] at h0
  have h1 := h0.1.rsI
  refine ⟨fun p hp => ?_, h1.up.imp fun ⟨a, _⟩ => a, h1.up.imp fun ⟨_, b, c, d⟩ => ⟨by simpa using b, by simpa using c, by simpa using d⟩, h0.2⟩
  have := h1.at_ p hp
  obtain ⟨_, h, _⟩ := this
  simpa using h
theorem longR_len (l : List Int) : (longR l).length = top l := (longR_longest l).len
/-- no other one is longer, and none of the same length comes first -/
theorem longR_least {l : List Int} {T : List Nat} (h1 : ∀ p ∈ T, p < l.length) (h2 : T.Pairwise fun p q => p < q ∧ ∃ (h : p < l.length) (h' : q < l.length), l[p] < l[q]) :
    T.length ≤ (longR l).length ∧ (T.length = (longR l).length → Lex (longR l) T) := by
  obtain ⟨M, hM⟩ := ex_below l
  have hR : RsI M 0 l T := ⟨fun p hp => ⟨Nat.zero_le _, by simpa using h1 p hp, hM _ (List.getElem_mem _)⟩, h2.imp fun ⟨a, b, c, d⟩ => ⟨a, by simpa using b, by simpa using c, by simpa using d⟩⟩
  have h3 := hR.ris
  rw [longR_len, top_mx hM]
  refine ⟨h3.len, fun h => ?_⟩
  have := h3.lex h
  unfold longR
  rw [top_mx hM]
  exact this
theorem sub_top {s l : List Int} (h : s.Sublist l) (h2 : s.Pairwise (· < ·)) : s.length ≤ top l := by
  obtain ⟨M, hM⟩ := ex_below l
  rw [top_mx hM]
  exact sub_mx h (fun y hy => hM y (h.subset hy)) h2
end Go.Proofs.Ytejgcpohdbiaoaa
