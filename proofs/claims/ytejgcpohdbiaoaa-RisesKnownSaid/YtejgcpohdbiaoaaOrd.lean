/- Plain mathematics: orders, positions, steps, moves. No program. -/
import Derived.Test.YtejgcpohdbiaoaaPlain
namespace Go.Proofs.Ytejgcpohdbiaoaa

/-! orders -/
def chkG : List Int → List Int → Int
  | _, [] => 0
  | seen, x :: r => if x < 0 then 1 else if x ∈ seen then 8 else chkG (seen ++ [x]) r
def chk (l : List Int) : Int := if 4096 < l.length then 3 else chkG [] l
structure Ord (l : List Int) : Prop where
  len : l.length ≤ 4096
  nn : ∀ x ∈ l, 0 ≤ x
  nd : l.Nodup
theorem chkG_range (seen l : List Int) : chkG seen l = 0 ∨ chkG seen l = 1 ∨ chkG seen l = 8 := by
  induction l generalizing seen with
  | nil => simp [chkG]
  | cons x r ih =>
    simp only [chkG]
    split
    · simp
    · split
      · simp
      · exact ih _
theorem chkG_zero {seen l : List Int} : chkG seen l = 0 ↔ (∀ x ∈ l, 0 ≤ x ∧ x ∉ seen) ∧ l.Nodup := by
  induction l generalizing seen with
  | nil => simp [chkG]
  | cons x r ih =>
    simp only [chkG]
    split
    · rename_i h
      constructor
      · intro h2; omega
      · intro h2; have := (h2.1 x (by simp)).1; omega
    · rename_i h
      split
      · rename_i h1
        constructor
        · intro h2; omega
        · intro h2; exact absurd h1 (h2.1 x (by simp)).2
      · rename_i h1
        rw [ih, List.nodup_cons]
        constructor
        · rintro ⟨h2, h3⟩
          refine ⟨fun y hy => ?_, fun hx => ?_, h3⟩
          · rcases List.mem_cons.1 hy with rfl | hy
            · exact ⟨by omega, h1⟩
            · have := h2 y hy; simp only [List.mem_append, List.mem_singleton, not_or] at this; exact ⟨this.1, this.2.1⟩
          · have := (h2 x hx).2; simp at this
        · rintro ⟨h2, h3, h4⟩
          refine ⟨fun y hy => ?_, h4⟩
          have := h2 y (by simp [hy])
          refine ⟨this.1, ?_⟩
          simp only [List.mem_append, List.mem_singleton, not_or]
          exact ⟨this.2, fun e => h3 (e ▸ hy)⟩
theorem chk_zero {l : List Int} : chk l = 0 ↔ Ord l := by
  unfold chk
  split
  · rename_i h
    exact ⟨fun h2 => by omega, fun h2 => by have := h2.len; omega⟩
  · rename_i h
    rw [chkG_zero]
    exact ⟨fun h2 => ⟨by omega, fun x hx => (h2.1 x hx).1, h2.2⟩, fun h2 => ⟨fun x hx => ⟨h2.nn x hx, by simp⟩, h2.nd⟩⟩
theorem chk_range (l : List Int) : chk l = 0 ∨ chk l = 1 ∨ chk l = 3 ∨ chk l = 8 := by
  unfold chk
  split
  · simp
  · rcases chkG_range [] l with h | h | h <;> simp [h]
theorem Ord.perm {l m : List Int} (h : Ord l) (hp : m.Perm l) : Ord m :=
  ⟨by rw [hp.length_eq]; exact h.len, fun x hx => h.nn x (hp.mem_iff.1 hx), hp.nodup_iff.2 h.nd⟩
theorem chkG_step {l : List Int} {i : Nat} (h : i < l.length) : chkG (l.take i) (l.drop i) = if l[i] < 0 then 1 else if l[i] ∈ l.take i then 8 else chkG (l.take (i + 1)) (l.drop (i + 1)) := by
  rw [List.drop_eq_getElem_cons h, List.take_succ_eq_append_getElem h]
  rfl

theorem perm_of_sub {s t : List Int} (hn : s.Nodup) (h : ∀ x ∈ s, x ∈ t) (hl : t.length ≤ s.length) : s.Perm t := by
  induction s generalizing t with
  | nil => obtain rfl : t = [] := List.eq_nil_of_length_eq_zero (by simpa using hl)
           exact List.Perm.refl _
  | cons x r ih =>
    obtain ⟨h1, h2⟩ := List.nodup_cons.1 hn
    have hx := h x (by simp)
    have hp := List.perm_cons_erase hx
    have hle := hp.length_eq
    simp only [List.length_cons] at hl hle
    refine ((ih h2 (fun y hy => ?_) (by omega)).cons x).trans hp.symm
    have hy2 := h y (by simp [hy])
    have hne : y ≠ x := fun e => h1 (e ▸ hy)
    exact (List.mem_erase_of_ne hne).2 hy2

/-! positions -/
def atL (l : List Int) (x : Int) : Int := if x ∈ l then (l.idxOf x : Int) else -1
theorem atL_none {l : List Int} {x : Int} (h : x ∉ l) : atL l x = -1 := by unfold atL; rw [if_neg h]
theorem atL_mem {l : List Int} {x : Int} (h : x ∈ l) : atL l x = (l.idxOf x : Int) := by unfold atL; rw [if_pos h]
theorem atL_neg {l : List Int} {x : Int} : atL l x < 0 ↔ x ∉ l := by
  unfold atL
  split
  · rename_i h; exact ⟨fun h2 => by omega, fun h2 => absurd h h2⟩
  · rename_i h; exact ⟨fun _ => h, fun _ => by omega⟩
theorem atL_lt {l : List Int} {x : Int} : atL l x < l.length := by
  unfold atL
  split
  · rename_i h; have := List.idxOf_lt_length_iff.2 h; omega
  · omega
theorem atL_get {l : List Int} (hn : l.Nodup) {i : Nat} (h : i < l.length) : atL l l[i] = i := by
  rw [atL_mem (List.getElem_mem h)]
  have h1 := List.idxOf_lt_length_iff.2 (List.getElem_mem h)
  have h2 : l[l.idxOf l[i]] = l[i] := List.getElem_idxOf h1
  have := (List.getElem_inj hn).1 h2
  omega
theorem atL_inv {l : List Int} {x : Int} {i : Nat} (h : atL l x = i) : ∃ hi : i < l.length, l[i] = x := by
  by_cases hx : x ∈ l
  · rw [atL_mem hx] at h
    have h1 := List.idxOf_lt_length_iff.2 hx
    have e : l.idxOf x = i := by omega
    subst e
    exact ⟨h1, List.getElem_idxOf h1⟩
  · rw [atL_none hx] at h; omega
theorem atL_eq {l : List Int} {x : Int} {i : Nat} (hi : i < l.length) (hx : l[i] = x) (hb : ∀ j (h : j < l.length), j < i → l[j] ≠ x) : atL l x = i := by
  have hm : x ∈ l := hx ▸ List.getElem_mem hi
  rw [atL_mem hm]
  have h1 := List.idxOf_lt_length_iff.2 hm
  have h2 : l[l.idxOf x] = x := List.getElem_idxOf h1
  have h3 : ¬ l.idxOf x < i := fun h => hb _ h1 h h2
  have h4 : ¬ i < l.idxOf x := fun h => by
    have := List.not_of_lt_findIdx (p := (· == x)) (xs := l) (i := i) h
    simp [hx] at this
  omega
def posL (old now : List Int) : List Int := now.map (atL old)
theorem posL_len (old now : List Int) : (posL old now).length = now.length := by simp [posL]
def pairE (old now : List Int) : Int :=
  if chk old ≠ 0 then chk old else if chk now ≠ 0 then chk now else if old.length ≠ now.length then 16 else if ∀ x ∈ now, x ∈ old then 0 else 16
theorem pairE_zero {old now : List Int} : pairE old now = 0 ↔ Ord old ∧ Ord now ∧ now.Perm old := by
  unfold pairE
  by_cases h1 : chk old = 0
  · rw [if_neg (by simp [h1])]
    by_cases h2 : chk now = 0
    · rw [if_neg (by simp [h2])]
      have o1 := chk_zero.1 h1
      have o2 := chk_zero.1 h2
      by_cases h3 : old.length = now.length
      · rw [if_neg (by simp [h3])]
        by_cases h4 : ∀ x ∈ now, x ∈ old
        · rw [if_pos h4]
          refine ⟨fun _ => ⟨o1, o2, ?_⟩, fun _ => rfl⟩
          exact perm_of_sub o2.nd h4 (by omega)
        · rw [if_neg h4]
          exact ⟨fun h => by omega, fun h => absurd (fun x hx => h.2.2.mem_iff.1 hx) h4⟩
      · rw [if_pos (by exact h3)]
        exact ⟨fun h => by omega, fun h => absurd h.2.2.length_eq.symm h3⟩
    · rw [if_pos (by exact h2)]
      exact ⟨fun h => absurd h h2, fun h => absurd (chk_zero.2 h.2.1) h2⟩
  · rw [if_pos (by exact h1)]
    exact ⟨fun h => absurd h h1, fun h => absurd (chk_zero.2 h.1) h1⟩
def keptP (old now : List Int) : List Nat := longR (posL old now)
def keptL (old now : List Int) : List Int := (keptP old now).map fun i => now.getD i 0
/-- the number behind -/
def nxt (now : List Int) (i : Nat) : Int := now.getD (i + 1) (-1)
def mvJ (now : List Int) (K : List Nat) : Nat → List (Int × Int)
  | 0 => []
  | j + 1 => mvJ now K j ++ (if now.length - 1 - j ∈ K then [] else [(now.getD (now.length - 1 - j) 0, nxt now (now.length - 1 - j))])
def movesL (old now : List Int) : List (Int × Int) := mvJ now (keptP old now) now.length

/-! how many moves -/
theorem cnt {K : List Nat} (h : K.Nodup) (a : Nat) : (K.filter (a ≤ ·)).length = (K.filter (a + 1 ≤ ·)).length + (if a ∈ K then 1 else 0) := by
  induction K with
  | nil => simp
  | cons k K ih =>
    obtain ⟨h1, h2⟩ := List.nodup_cons.1 h
    have ih := ih h2
    simp only [List.filter_cons, decide_eq_true_eq, List.mem_cons]
    rcases Nat.lt_trichotomy a k with h3 | h3 | h3
    · rw [if_pos (by omega), if_pos (by omega)]
      have e : (a = k ∨ a ∈ K) ↔ a ∈ K := ⟨fun h => by rcases h with h | h; omega; exact h, .inr⟩
      simp only [e, List.length_cons]
      omega
    · subst h3
      rw [if_pos (by omega), if_neg (by omega)]
      have e : a ∉ K := h1
      rw [if_neg e] at ih
      simp only [true_or, if_true, List.length_cons]
      omega
    · rw [if_neg (by omega), if_neg (by omega)]
      have e : (a = k ∨ a ∈ K) ↔ a ∈ K := ⟨fun h => by rcases h with h | h; omega; exact h, .inr⟩
      simp only [e]
      omega
theorem mvJ_len {now : List Int} {K : List Nat} (hn : K.Nodup) (hl : ∀ k ∈ K, k < now.length) {j : Nat} (hj : j ≤ now.length) : (mvJ now K j).length + (K.filter (now.length - j ≤ ·)).length = j := by
  induction j with
  | zero =>
    have : K.filter (now.length - 0 ≤ ·) = [] := List.filter_eq_nil_iff.2 fun k hk => by have := hl k hk; simp; omega
    rw [this]; rfl
  | succ j ih =>
    have ih := ih (by omega)
    have e1 : now.length - (j + 1) = now.length - 1 - j := by omega
    have e2 : now.length - 1 - j + 1 = now.length - j := by omega
    have hc := cnt hn (now.length - 1 - j)
    rw [e2] at hc
    rw [e1, hc]
    simp only [mvJ, List.length_append]
    split <;> simp only [List.length_nil, List.length_singleton] <;> omega
theorem mvJ_mono {now : List Int} {K : List Nat} {i j : Nat} (h : i ≤ j) : (mvJ now K i).length ≤ (mvJ now K j).length := by
  induction j with
  | zero => obtain rfl : i = 0 := by omega
            exact Nat.le_refl _
  | succ j ih =>
    rcases Nat.lt_or_ge j i with h2 | h2
    · obtain rfl : i = j + 1 := by omega
      exact Nat.le_refl _
    · have := ih h2
      simp only [mvJ, List.length_append]
      omega
theorem asc_nodup {K : List Nat} (h : K.Pairwise (· < ·)) : K.Nodup := h.imp fun h => by omega
theorem mvJ_whole {now : List Int} {K : List Nat} (hn : K.Pairwise (· < ·)) (hl : ∀ k ∈ K, k < now.length) : (mvJ now K now.length).length + K.length = now.length := by
  have := mvJ_len (now := now) (asc_nodup hn) hl (Nat.le_refl _)
  have e : K.filter (now.length - now.length ≤ ·) = K := List.filter_eq_self.2 fun k _ => by simp
  rw [e] at this
  exact this
theorem kept_ok (old now : List Int) : (keptP old now).Pairwise (· < ·) ∧ ∀ k ∈ keptP old now, k < now.length := by
  have h := longR_longest (posL old now)
  exact ⟨h.up, fun k hk => by have := h.lt k hk; rwa [posL_len] at this⟩
theorem moves_len (old now : List Int) : (movesL old now).length + (keptP old now).length = now.length := mvJ_whole (kept_ok old now).1 (kept_ok old now).2

/-! the kept positions below a bound are a prefix -/
theorem below_take {K : List Nat} (h : K.Pairwise (· < ·)) (a : Nat) : K.filter (· < a) = K.take (K.filter (· < a)).length := by
  induction K with
  | nil => simp
  | cons k K ih =>
    obtain ⟨h1, h2⟩ := List.pairwise_cons.1 h
    have ih := ih h2
    simp only [List.filter_cons, decide_eq_true_eq]
    by_cases hk : k < a
    · rw [if_pos hk, List.length_cons, List.take_succ_cons, ← ih]
    · rw [if_neg hk]
      have : K.filter (· < a) = [] := List.filter_eq_nil_iff.2 fun x hx => by have := h1 x hx; simp; omega
      simp [this]
theorem below_last {K : List Nat} (h : K.Pairwise (· < ·)) {a : Nat} (ha : a ∈ K) : K.filter (· < a + 1) = K.filter (· < a) ++ [a] := by
  induction K with
  | nil => simp at ha
  | cons k K ih =>
    obtain ⟨h1, h2⟩ := List.pairwise_cons.1 h
    simp only [List.filter_cons, decide_eq_true_eq]
    rcases List.mem_cons.1 ha with rfl | ha
    · rw [if_pos (by omega), if_neg (by omega)]
      have e1 : K.filter (· < a + 1) = [] := List.filter_eq_nil_iff.2 fun x hx => by have := h1 x hx; simp; omega
      have e2 : K.filter (· < a) = [] := List.filter_eq_nil_iff.2 fun x hx => by have := h1 x hx; simp; omega
      simp [e1, e2]
    · have := h1 a ha
      rw [if_pos (by omega), if_pos (by omega), ih h2 ha, List.cons_append]
theorem below_skip {K : List Nat} {a : Nat} (ha : a ∉ K) : K.filter (· < a + 1) = K.filter (· < a) := by
  refine List.filter_congr fun x hx => ?_
  have : x ≠ a := fun e => ha (e ▸ hx)
  simp only [decide_eq_decide]
  omega

/-! steps -/
def mvT {α : Type} [DecidableEq α] (x a : α) (T : List α) : List α := T.flatMap fun y => (if y = a then [x] else []) ++ (if y = x then [] else [y])
def mvL (x a : Int) (l : List Int) : List Int := mvT x a l ++ (if a = -1 then [x] else [])
def stepE (l : List Int) (x a : Int) : Int := if x ∉ l ∨ (a ≠ -1 ∧ a ∉ l) then 11 else if x = a then 1 else 0
def carL : List Int → List (Int × Int) → List Int × Int
  | l, [] => (l, 0)
  | l, s :: r => if stepE l s.1 s.2 = 0 then carL (mvL s.1 s.2 l) r else ([], stepE l s.1 s.2)
def carryR (l : List Int) (s : List (Int × Int)) : List Int × Int := if chk l = 0 then (if 4096 < s.length then ([], 3) else carL l s) else ([], chk l)

section
variable {α : Type} [DecidableEq α]
theorem mvT_app (x a : α) (S T : List α) : mvT x a (S ++ T) = mvT x a S ++ mvT x a T := by simp [mvT]
theorem mvT_cons (x a y : α) (T : List α) : mvT x a (y :: T) = ((if y = a then [x] else []) ++ (if y = x then [] else [y])) ++ mvT x a T := by simp [mvT]
theorem mvT_id {x a : α} {T : List α} (ha : a ∉ T) (hx : x ∉ T) : mvT x a T = T := by
  induction T with
  | nil => rfl
  | cons y T ih =>
    simp only [List.mem_cons, not_or] at ha hx
    rw [mvT_cons, ih ha.2 hx.2, if_neg (fun e => ha.1 e.symm), if_neg (fun e => hx.1 e.symm)]
    rfl
theorem mvT_at {x a : α} {s t : List α} (hs : a ∉ s) (ht : a ∉ t) (hx : x ∉ s ++ t) (hne : x ≠ a) : mvT x a (s ++ a :: t) = s ++ x :: a :: t := by
  simp only [List.mem_append, not_or] at hx
  rw [mvT_app, mvT_cons, mvT_id hs hx.1, mvT_id ht hx.2, if_pos rfl, if_neg (fun e => hne e.symm)]
  rfl
theorem mvT_out {x a : α} {u v : List α} (hne : x ≠ a) : mvT x a (u ++ x :: v) = mvT x a (u ++ v) := by
  rw [mvT_app, mvT_cons, mvT_app, if_neg hne, if_pos rfl]
  rfl
theorem mvT_map {β : Type} [DecidableEq β] (f : α → β) {x a : α} {T : List α} (ha : ∀ y ∈ T, f y = f a → y = a) (hx : ∀ y ∈ T, f y = f x → y = x) : (mvT x a T).map f = mvT (f x) (f a) (T.map f) := by
  induction T with
  | nil => rfl
  | cons y T ih =>
    rw [mvT_cons, List.map_cons, mvT_cons, List.map_append, ih (fun z hz => ha z (by simp [hz])) (fun z hz => hx z (by simp [hz]))]
    have h1 := ha y (by simp)
    have h2 := hx y (by simp)
    congr 1
    by_cases e1 : y = a
    · by_cases e2 : y = x
      · simp [← e1, ← e2]
      · have e3 : f y ≠ f x := fun e => e2 (h2 e)
        subst e1
        rw [if_pos rfl, if_neg e2, if_pos rfl, if_neg e3]
        rfl
    · have e4 : f y ≠ f a := fun e => e1 (h1 e)
      by_cases e2 : y = x
      · subst e2
        rw [if_neg e1, if_pos rfl, if_neg e4, if_pos rfl]
        rfl
      · have e3 : f y ≠ f x := fun e => e2 (h2 e)
        rw [if_neg e1, if_neg e2, if_neg e4, if_neg e3]
        rfl
theorem mvT_filter {x a : α} {P : α → Bool} (hx : P x = true) (ha : P a = true) (T : List α) : (mvT x a T).filter P = mvT x a (T.filter P) := by
  induction T with
  | nil => rfl
  | cons y T ih =>
    rw [mvT_cons, List.filter_append, ih, List.filter_cons]
    by_cases hy : P y = true
    · rw [if_pos hy, mvT_cons]
      congr 1
      rw [List.filter_append]
      congr 1 <;> split <;> simp [hx, hy]
    · rw [if_neg hy]
      have e1 : y ≠ a := fun e => hy (e ▸ ha)
      have e2 : y ≠ x := fun e => hy (e ▸ hx)
      rw [if_neg e1, if_neg e2]
      simp [hy]
theorem mvT_sub (x a : α) (T : List α) : (T.filter (· ≠ x)).Sublist (mvT x a T) := by
  induction T with
  | nil => simp [mvT]
  | cons y T ih =>
    rw [mvT_cons, List.filter_cons]
    by_cases e : y = x
    · rw [if_neg (by simp [e])]
      exact ih.trans (List.sublist_append_right _ _)
    · rw [if_pos (by simp [e]), if_neg e]
      have : (y :: T.filter (· ≠ x)).Sublist ([y] ++ mvT x a T) := (List.cons_sublist_cons.2 ih)
      rw [List.append_assoc]
      exact this.trans (List.sublist_append_right _ _)
theorem mvT_perm {x a : α} {T : List α} (hn : T.Nodup) (hx : x ∈ T) (ha : a ∈ T) (hne : x ≠ a) : (mvT x a T).Perm T := by
  obtain ⟨u, v, rfl⟩ := List.append_of_mem hx
  rw [mvT_out hne]
  have hn2 : (u ++ v).Nodup := hn.sublist (List.Sublist.append_left (List.sublist_cons_self _ _) _)
  have hx2 : x ∉ u ++ v := by
    have := List.perm_middle.nodup_iff.1 hn
    exact (List.nodup_cons.1 this).1
  have ha2 : a ∈ u ++ v := by
    simp only [List.mem_append, List.mem_cons] at ha ⊢
    rcases ha with h | h | h
    · exact .inl h
    · exact absurd h.symm hne
    · exact .inr h
  obtain ⟨s, t, e⟩ := List.append_of_mem ha2
  rw [e] at hn2 hx2 ⊢
  have hn3 := List.nodup_cons.1 (List.perm_middle.nodup_iff.1 hn2)
  simp only [List.mem_append, not_or] at hn3
  rw [mvT_at hn3.1.1 hn3.1.2 (by simp only [List.mem_append, List.mem_cons, not_or] at hx2 ⊢; exact ⟨hx2.1, hx2.2.2⟩) hne]
  refine List.perm_middle.trans ?_
  rw [← e]
  exact List.perm_middle.symm
end
theorem mvL_end {x a : Int} {l : List Int} (hx : x ≠ -1) : mvL x a l ++ [-1] = mvT x a (l ++ [-1]) := by
  unfold mvL
  rw [mvT_app, List.append_assoc]
  congr 1
  unfold mvT
  by_cases h : a = -1
  · subst h
    simp [hx.symm]
  · have : ¬ ((-1 : Int) = a) := fun e => h e.symm
    simp [h, this, hx.symm]
theorem ord_end {l : List Int} (h : Ord l) : (l ++ [-1]).Nodup := by
  rw [List.nodup_append]
  refine ⟨h.nd, by simp, fun a ha b hb => ?_⟩
  have := h.nn a ha
  simp at hb
  omega
theorem mvL_perm {x a : Int} {l : List Int} (h : Ord l) (he : stepE l x a = 0) : (mvL x a l).Perm l := by
  unfold stepE at he
  split at he
  · omega
  · rename_i h1
    split at he
    · omega
    · rename_i h2
      simp only [not_or, Decidable.not_not] at h1
      have hx := h.nn x h1.1
      have hp := mvT_perm (x := x) (a := a) (ord_end h) (by simp [h1.1]) (by
        by_cases e : a = -1
        · simp [e]
        · have : a ∈ l := Decidable.by_contra fun hc => h1.2 ⟨e, hc⟩
          simp [this]) h2
      rw [← mvL_end (by omega)] at hp
      exact List.perm_append_right_iff _ |>.1 hp
theorem stepE_perm {l m : List Int} (hp : m.Perm l) (x a : Int) : stepE m x a = stepE l x a := by
  unfold stepE
  simp only [hp.mem_iff]
theorem carL_ok {l m : List Int} {s : List (Int × Int)} (h : Ord l) (he : carL l s = (m, 0)) : m.Perm l := by
  induction s generalizing l with
  | nil => simp only [carL, Prod.mk.injEq] at he; rw [he.1]
  | cons s r ih =>
    simp only [carL] at he
    split at he
    · rename_i h1
      have hp := mvL_perm h h1
      exact (ih (h.perm hp) he).trans hp
    · rename_i h1
      simp only [Prod.mk.injEq] at he
      exact absurd he.2 h1
theorem carL_err {l : List Int} {s : List (Int × Int)} (he : (carL l s).2 ≠ 0) : (carL l s).1 = [] := by
  induction s generalizing l with
  | nil => simp [carL] at he
  | cons s r ih =>
    simp only [carL] at he ⊢
    split
    · rename_i h1
      rw [if_pos h1] at he
      exact ih he
    · rfl
theorem carL_app {l m : List Int} {s t : List (Int × Int)} (he : carL l s = (m, 0)) : carL l (s ++ t) = carL m t := by
  induction s generalizing l with
  | nil => simp only [carL, Prod.mk.injEq] at he; rw [he.1]; rfl
  | cons s r ih =>
    simp only [carL, List.cons_append] at he ⊢
    split at he
    · rename_i h1
      rw [if_pos h1]
      exact ih he
    · rename_i h1
      simp only [Prod.mk.injEq] at he
      exact absurd he.2 h1
theorem stepE_range (l : List Int) (x a : Int) : stepE l x a = 0 ∨ stepE l x a = 1 ∨ stepE l x a = 11 := by
  unfold stepE
  split
  · simp
  · split <;> simp
theorem carL_range (l : List Int) (s : List (Int × Int)) : (carL l s).2 = 0 ∨ (carL l s).2 = 1 ∨ (carL l s).2 = 11 := by
  induction s generalizing l with
  | nil => simp [carL]
  | cons s r ih =>
    simp only [carL]
    split
    · exact ih _
    · exact stepE_range l s.1 s.2

/-! fewest -/
theorem filter_ne_len {S : List Int} (h : S.Nodup) (x : Int) : S.length ≤ (S.filter (· ≠ x)).length + 1 := by
  induction S with
  | nil => simp
  | cons y S ih =>
    obtain ⟨h1, h2⟩ := List.nodup_cons.1 h
    rw [List.filter_cons]
    by_cases e : y = x
    · subst e
      rw [if_neg (by simp)]
      have : S.filter (· ≠ y) = S := List.filter_eq_self.2 fun z hz => by
        simp only [ne_eq, decide_not, Bool.not_eq_eq_eq_not, Bool.not_true, decide_eq_false_iff_not]
        exact fun e => h1 (e ▸ hz)
      rw [this, List.length_cons]
      exact Nat.le_refl _
    · rw [if_pos (by simp [e])]
      have := ih h2
      simp only [List.length_cons]
      omega
theorem carL_sub {l0 l m S : List Int} {s : List (Int × Int)} (hn : l0.Nodup) (h0 : S.Sublist l0) (h1 : S.Sublist l) (he : carL l s = (m, 0)) :
    ∃ S' : List Int, S'.Sublist l0 ∧ S'.Sublist m ∧ S.length ≤ S'.length + s.length := by
  induction s generalizing l S with
  | nil =>
    simp only [carL, Prod.mk.injEq] at he
    exact ⟨S, h0, he.1 ▸ h1, by simp⟩
  | cons s r ih =>
    simp only [carL] at he
    split at he
    · have h2 := filter_ne_len (hn.sublist h0) s.1
      obtain ⟨S', h3, h4, h5⟩ := ih (S := S.filter (· ≠ s.1)) (List.filter_sublist.trans h0) (((h1.filter _).trans (mvT_sub s.1 s.2 l)).trans (List.sublist_append_left _ _)) he
      exact ⟨S', h3, h4, by rw [List.length_cons]; omega⟩
    · rename_i h2
      simp only [Prod.mk.injEq] at he
      exact absurd he.2 h2
theorem pos_up {l : List Int} (h : l.Nodup) : (l.map (atL l)).Pairwise (· < ·) := by
  rw [List.pairwise_iff_getElem]
  intro i j hi hj hij
  simp only [List.getElem_map]
  rw [atL_get h, atL_get h]
  omega
theorem fewest {old m : List Int} {s : List (Int × Int)} (h : Ord old) (he : carL old s = (m, 0)) : (movesL old m).length ≤ s.length := by
  obtain ⟨S, h1, h2, h3⟩ := carL_sub h.nd (List.Sublist.refl old) (List.Sublist.refl old) he
  have h4 := sub_top (h2.map (atL old)) ((pos_up h.nd).sublist (h1.map (atL old)))
  have h5 := moves_len old m
  have h6 := (carL_ok h he).length_eq
  have h7 : (keptP old m).length = top (posL old m) := longR_len _
  unfold posL at h7
  rw [List.length_map] at h4
  omega

/-! the moves make the old order the new one -/
theorem kept_mem {now : List Int} (h : now.Nodup) {K : List Nat} {i : Nat} (hi : i < now.length) (hK : ∀ k ∈ K, k < now.length) : now[i] ∈ (K.map fun i => now.getD i 0) ↔ i ∈ K := by
  rw [List.mem_map]
  constructor
  · rintro ⟨k, hk, e⟩
    have hl := hK k hk
    rw [List.getD_eq_getElem?_getD, List.getElem?_eq_getElem hl] at e
    simp only [Option.getD_some] at e
    rw [← (List.getElem_inj h).1 e]
    exact hk
  · intro hk
    exact ⟨i, hk, by rw [List.getD_eq_getElem?_getD, List.getElem?_eq_getElem hi]; rfl⟩
theorem kept_sub {now : List Int} {K : List Nat} (hK : ∀ k ∈ K, k < now.length) (hu : K.Pairwise (· < ·)) : (K.map fun i => now.getD i 0).Sublist now := by
  induction now generalizing K with
  | nil =>
    cases K with
    | nil => simp
    | cons k K => have := hK k (by simp); simp at this
  | cons y r ih =>
    cases K with
    | nil => simp
    | cons k K =>
      obtain ⟨h1, h2⟩ := List.pairwise_cons.1 hu
      have key : ∀ T : List Nat, (∀ t ∈ T, 0 < t ∧ t < r.length + 1) → T.Pairwise (· < ·) → (T.map fun i => (y :: r).getD i 0).Sublist r := by
        intro T hT hp
        have e : (T.map fun i => (y :: r).getD i 0) = ((T.map (· - 1)).map fun i => r.getD i 0) := by
          rw [List.map_map]
          refine List.map_congr_left fun t ht => ?_
          have := hT t ht
          obtain ⟨t, rfl⟩ : ∃ s, t = s + 1 := ⟨t - 1, by omega⟩
          simp
        rw [e]
        refine ih (fun t ht => ?_) ?_
        · obtain ⟨u, hu, rfl⟩ := List.mem_map.1 ht
          have := hT u hu
          omega
        · rw [List.pairwise_map]
          refine hp.imp_of_mem fun {a b} ha hb h => ?_
          have := hT a ha
          omega
      by_cases hk : k = 0
      · subst hk
        rw [List.map_cons]
        have : (y :: r).getD 0 0 = y := rfl
        rw [this]
        exact List.cons_sublist_cons.2 (key K (fun t ht => ⟨h1 t ht, by have := hK t (by simp [ht]); simpa using this⟩) h2)
      · refine (key (k :: K) (fun t ht => ?_) hu).trans (List.sublist_cons_self _ _)
        have := hK t ht
        rcases List.mem_cons.1 ht with rfl | ht'
        · exact ⟨by omega, by simpa using this⟩
        · have := h1 t ht'
          exact ⟨by omega, by simpa using hK t (by simp [ht'])⟩
theorem nodup_ext {s t : List Int} (h1 : s.Nodup) (h2 : t.Nodup) (h : ∀ x, x ∈ s ↔ x ∈ t) : s.Perm t := (List.perm_ext_iff_of_nodup h1 h2).2 h
/-- a sublist is what is left of a list without repetitions -/
theorem sub_filter {s l : List Int} (h : s.Sublist l) (hn : l.Nodup) : l.filter (· ∈ s) = s := by
  induction h with
  | slnil => rfl
  | @cons s l y h ih =>
    obtain ⟨h1, h2⟩ := List.nodup_cons.1 hn
    rw [List.filter_cons, if_neg (by simp only [decide_eq_true_eq]; exact fun h3 => h1 (h.subset h3))]
    exact ih h2
  | @cons_cons s l y h ih =>
    obtain ⟨h1, h2⟩ := List.nodup_cons.1 hn
    rw [List.filter_cons, if_pos (by simp)]
    congr 1
    refine Eq.trans (List.filter_congr fun z hz => ?_) (ih h2)
    have : z ≠ y := fun e => h1 (e ▸ hz)
    simp [this]
theorem kept_old {old now : List Int} (ho : Ord old) (hn : Ord now) (hp : now.Perm old) : old.filter (· ∈ keptL old now) = keptL old now := by
  obtain ⟨k1, k2⟩ := kept_ok old now
  have hs := kept_sub k2 k1
  have hu : ((keptL old now).map (atL old)).Pairwise (· < ·) := by
    have h := (longR_longest (posL old now)).rise
    unfold keptL keptP
    rw [List.map_map, List.pairwise_map]
    refine h.imp fun {p q} ⟨hp, hq, e⟩ => ?_
    have hp' : p < now.length := by rwa [posL_len] at hp
    have hq' : q < now.length := by rwa [posL_len] at hq
    simp only [Function.comp]
    rw [List.getD_eq_getElem?_getD, List.getElem?_eq_getElem hp', List.getD_eq_getElem?_getD, List.getElem?_eq_getElem hq']
    simpa [posL] using e
  rw [List.pairwise_map] at hu
  have hv : (old.filter (· ∈ keptL old now)).Pairwise fun a b => atL old a < atL old b := by
    have := pos_up ho.nd
    rw [List.pairwise_map] at this
    exact this.sublist List.filter_sublist
  refine List.Perm.eq_of_pairwise (le := fun a b => atL old a < atL old b) (fun a b _ _ hab hba => by omega) hv hu ?_
  refine nodup_ext (ho.nd.sublist List.filter_sublist) (hn.nd.sublist hs) fun x => ?_
  simp only [List.mem_filter, decide_eq_true_eq]
  exact ⟨fun h => h.2, fun h => ⟨hp.mem_iff.1 (hs.subset h), h⟩⟩
end Go.Proofs.Ytejgcpohdbiaoaa
