/- Plain mathematics: slots of a map by open addressing, beside an ascending list of pairs. -/
import Derived.Lib.Hide
namespace Go.Proofs.Ytedekcphgcmlnaa

inductive Sl where
  | free
  | tomb
  | taken (k v : Int)
deriving DecidableEq
def Sl.st : Sl → Int
  | .free => 0
  | .tomb => 2
  | .taken _ _ => 1
def Sl.key : Sl → Int
  | .taken k _ => k
  | _ => 0
def Sl.val : Sl → Int
  | .taken _ v => v
  | _ => 0
def Sl.pr : Sl → Option (Int × Int)
  | .taken k v => some (k, v)
  | _ => none
def Sl.isTomb : Sl → Bool
  | .tomb => true
  | _ => false
def prs (S : List Sl) : List (Int × Int) := S.filterMap Sl.pr
def tms (S : List Sl) : Nat := S.countP Sl.isTomb
/-- where the search for a key begins -/
def start (k : Int) (n : Nat) : Nat := ((k * 11400714819323198485 % 18446744073709551616) * n / 18446744073709551616).toNat
theorem start_lt (k : Int) {n : Nat} (hn : 0 < n) : start k n < n := by
  unfold start
  have h1 : 0 ≤ k * 11400714819323198485 % 18446744073709551616 := Int.emod_nonneg _ (by decide)
  have h2 : k * 11400714819323198485 % 18446744073709551616 < 18446744073709551616 := Int.emod_lt_of_pos _ (by decide)
  generalize k * 11400714819323198485 % 18446744073709551616 = x at *
  have h3 : x * n < 18446744073709551616 * (n : Int) := Int.mul_lt_mul_of_pos_right h2 (by omega)
  have h4 : x * n / 18446744073709551616 < n := by
    apply Int.ediv_lt_of_lt_mul (by decide)
    rw [Int.mul_comm (n : Int)]
    exact h3
  have h5 : 0 ≤ x * (n : Int) := Int.mul_nonneg h1 (by omega)
  have h6 : 0 ≤ x * n / 18446744073709551616 := Int.ediv_nonneg h5 (by decide)
  omega
/-- the slot at distance j from the place where the search for k begins -/
def pos (k : Int) (n j : Nat) : Nat := (start k n + j) % n
theorem pos_lt (k : Int) {n : Nat} (j : Nat) (hn : 0 < n) : pos k n j < n := Nat.mod_lt _ hn
theorem pos_zero (k : Int) {n : Nat} (hn : 0 < n) : pos k n 0 = start k n := Nat.mod_eq_of_lt (start_lt k hn)
theorem pos_succ (k : Int) {n : Nat} (j : Nat) (_hn : 0 < n) : pos k n (j + 1) = (pos k n j + 1) % n := by
  unfold pos
  rw [Nat.mod_add_mod, Nat.add_assoc]
theorem pos_all (k : Int) {n i : Nat} (hi : i < n) : ∃ d, d < n ∧ pos k n d = i := by
  have hs := start_lt k (show 0 < n by omega)
  unfold pos
  by_cases h : start k n ≤ i
  · exact ⟨i - start k n, by omega, by rw [show start k n + (i - start k n) = i by omega]; exact Nat.mod_eq_of_lt hi⟩
  · refine ⟨i + n - start k n, by omega, ?_⟩
    rw [show start k n + (i + n - start k n) = i + n by omega, Nat.add_mod_right]
    exact Nat.mod_eq_of_lt hi
/-- no slot between the beginning of the search and a key is free -/
def Path (S : List Sl) (k : Int) (i : Nat) : Prop := ∃ d, d < S.length ∧ pos k S.length d = i ∧ ∀ j, j < d → S[pos k S.length j]? ≠ some .free
def Paths (S : List Sl) : Prop := ∀ (i : Nat) k v, S[i]? = some (.taken k v) → Path S k i
/-- what a search finds -/
structure Hit (S : List Sl) (k : Int) (i : Nat) : Prop where
  lt : i < S.length
  is : ∃ v, S[i]? = some (.taken k v)
structure Miss (S : List Sl) (k : Int) (i : Nat) : Prop where
  lt : i < S.length
  no : ∀ (j : Nat) v, S[j]? ≠ some (.taken k v)
  is : S[i]? = some .free ∨ S[i]? = some .tomb
  path : Path S k i
/-- the search has gone past j slots -/
def Past (S : List Sl) (k : Int) (j : Nat) : Prop := ∀ i, i < j → S[pos k S.length i]? ≠ some .free ∧ ∀ v, S[pos k S.length i]? ≠ some (.taken k v)
theorem Past.no {S : List Sl} (hP : Paths S) {k : Int} {j : Nat} (h : Past S k j) (hf : S[pos k S.length j]? = some .free) : ∀ (i : Nat) v, S[i]? ≠ some (.taken k v) := by
  intro i v hi
  obtain ⟨d, hd, hp, hn⟩ := hP i k v hi
  rcases Nat.lt_trichotomy d j with h1 | h1 | h1
  · exact (h d h1).2 v (by rw [hp]; exact hi)
  · subst h1
    rw [hp, hi] at hf
    simp at hf
  · exact hn j h1 hf
theorem Past.zero (S : List Sl) (k : Int) : Past S k 0 := fun _ h => absurd h (Nat.not_lt_zero _)
theorem Past.succ {S : List Sl} {k : Int} {j : Nat} (h : Past S k j) (h1 : S[pos k S.length j]? ≠ some .free) (h2 : ∀ v, S[pos k S.length j]? ≠ some (.taken k v)) : Past S k (j + 1) := fun i hi => by
  rcases Nat.lt_succ_iff_lt_or_eq.1 hi with h3 | rfl
  · exact h i h3
  · exact ⟨h1, h2⟩
theorem Past.lt {S : List Sl} {k : Int} {j : Nat} (h : Past S k j) {i : Nat} (hi : S[i]? = some .free) : j < S.length := by
  obtain ⟨hl, _⟩ := List.getElem?_eq_some_iff.1 hi
  obtain ⟨d, hd, hp⟩ := pos_all k hl
  rcases Nat.lt_or_ge d j with h1 | h1
  · exact absurd (by rw [hp]; exact hi) (h d h1).1
  · omega
theorem Past.free {S : List Sl} (hP : Paths S) {k : Int} {j : Nat} (h : Past S k j) (hf : S[pos k S.length j]? = some .free) : Miss S k (pos k S.length j) := by
  have hj := h.lt hf
  exact ⟨pos_lt k j (by omega), h.no hP hf, .inl hf, j, hj, rfl, fun i hi => (h i hi).1⟩
theorem Past.grave {S : List Sl} (hP : Paths S) {k : Int} {j g : Nat} (h : Past S k j) (hf : S[pos k S.length j]? = some .free) (hg : g < j) (ht : S[pos k S.length g]? = some .tomb) : Miss S k (pos k S.length g) := by
  have hj := h.lt hf
  exact ⟨pos_lt k g (by omega), h.no hP hf, .inr ht, g, by omega, rfl, fun i hi => (h i (by omega)).1⟩

/-! counting -/
theorem prs_len (S : List Sl) : (prs S).length + tms S + S.countP (fun s => decide (s = .free)) = S.length := by
  induction S with
  | nil => rfl
  | cons s S ih =>
    unfold prs tms at *
    cases s <;> simp [Sl.pr, Sl.isTomb, List.filterMap_cons, List.countP_cons] <;> omega
theorem free_of {S : List Sl} (h : (prs S).length + tms S < S.length) : ∃ i : Nat, S[i]? = some .free := by
  have h1 := prs_len S
  have h2 : 0 < S.countP (fun s => decide (s = .free)) := by omega
  obtain ⟨s, hs, he⟩ := List.countP_pos_iff.1 h2
  obtain ⟨i, hi⟩ := List.getElem?_of_mem hs
  exact ⟨i, by rw [hi]; simpa using he⟩
theorem split_at {S : List Sl} {i : Nat} {s : Sl} (h : S[i]? = some s) : S = S.take i ++ s :: S.drop (i + 1) := by
  obtain ⟨hl, he⟩ := List.getElem?_eq_some_iff.1 h
  rw [← he, List.getElem_cons_drop, List.take_append_drop]
theorem set_split {S : List Sl} {i : Nat} (hi : i < S.length) (x : Sl) : S.set i x = S.take i ++ x :: S.drop (i + 1) := List.set_eq_take_append_cons_drop.trans (if_pos hi)
theorem prs_app (a b : List Sl) : prs (a ++ b) = prs a ++ prs b := List.filterMap_append
theorem prs_set_new {S : List Sl} {i : Nat} {s : Sl} (h : S[i]? = some s) (hs : s.pr = none) (k v : Int) : (prs (S.set i (.taken k v))).Perm ((k, v) :: prs S) := by
  obtain ⟨hl, _⟩ := List.getElem?_eq_some_iff.1 h
  have e := split_at h
  rw [set_split hl]
  conv => rhs; rw [e]
  rw [prs_app, prs_app]
  have e1 : prs (.taken k v :: S.drop (i + 1)) = (k, v) :: prs (S.drop (i + 1)) := rfl
  have e2 : prs (s :: S.drop (i + 1)) = prs (S.drop (i + 1)) := List.filterMap_cons_none hs
  rw [e1, e2]
  exact List.perm_middle
theorem prs_set_old {S : List Sl} {i : Nat} {k v : Int} (h : S[i]? = some (.taken k v)) : (prs S).Perm ((k, v) :: prs (S.set i .tomb)) := by
  obtain ⟨hl, _⟩ := List.getElem?_eq_some_iff.1 h
  have e := split_at h
  rw [set_split hl]
  conv => lhs; rw [e]
  rw [prs_app, prs_app]
  have e1 : prs (.taken k v :: S.drop (i + 1)) = (k, v) :: prs (S.drop (i + 1)) := rfl
  have e2 : prs (.tomb :: S.drop (i + 1)) = prs (S.drop (i + 1)) := rfl
  rw [e1, e2]
  exact List.perm_middle
theorem prs_set_val {S : List Sl} {i : Nat} {k v : Int} (h : S[i]? = some (.taken k v)) (u : Int) : ∃ m, (prs S).Perm ((k, v) :: m) ∧ (prs (S.set i (.taken k u))).Perm ((k, u) :: m) := by
  obtain ⟨hl, _⟩ := List.getElem?_eq_some_iff.1 h
  have e := split_at h
  refine ⟨prs (S.take i) ++ prs (S.drop (i + 1)), ?_, ?_⟩
  · conv => lhs; rw [e]
    rw [prs_app]
    exact List.perm_middle
  · rw [set_split hl, prs_app]
    exact List.perm_middle
theorem tms_set {S : List Sl} {i : Nat} {s : Sl} (h : S[i]? = some s) (x : Sl) : tms (S.set i x) + (if s.isTomb then 1 else 0) = tms S + (if x.isTomb then 1 else 0) := by
  obtain ⟨hl, _⟩ := List.getElem?_eq_some_iff.1 h
  have e := split_at h
  rw [set_split hl]
  have e2 : tms S = tms (S.take i) + tms (s :: S.drop (i + 1)) := by
    conv => lhs; rw [e]
    unfold tms
    rw [List.countP_append]
  rw [e2]
  unfold tms
  rw [List.countP_append, List.countP_cons, List.countP_cons]
  omega
theorem path_set {S : List Sl} {i : Nat} {x : Sl} (hx : x ≠ .free) {k : Int} {p : Nat} (h : Path S k p) : Path (S.set i x) k p := by
  obtain ⟨d, h1, h2, h3⟩ := h
  refine ⟨d, by simpa using h1, by simpa using h2, fun j hj => ?_⟩
  rw [List.length_set, List.getElem?_set]
  split
  · split
    · simpa using hx
    · simp
  · exact h3 j hj
theorem paths_set {S : List Sl} (hP : Paths S) {i : Nat} {x : Sl} (hx : x ≠ .free) (hk : ∀ k v, x = .taken k v → Path S k i) : Paths (S.set i x) := by
  intro p k v hp
  rw [List.getElem?_set] at hp
  split at hp
  · rename_i e
    subst e
    split at hp
    · injection hp with hp
      exact path_set hx (hk k v hp)
    · cases hp
  · exact path_set hx (hP p k v hp)
theorem mem_prs {S : List Sl} {k v : Int} : (k, v) ∈ prs S ↔ ∃ i : Nat, S[i]? = some (.taken k v) := by
  unfold prs
  rw [List.mem_filterMap]
  constructor
  · rintro ⟨s, hs, he⟩
    obtain ⟨i, hi⟩ := List.getElem?_of_mem hs
    refine ⟨i, hi.trans ?_⟩
    cases s <;> simp [Sl.pr] at he
    obtain ⟨rfl, rfl⟩ := he
    rfl
  · rintro ⟨i, hi⟩
    exact ⟨_, List.mem_of_getElem? hi, rfl⟩

/-! the list of pairs -/
abbrev PL := List (Int × Int)
def Asc (L : PL) : Prop := L.Pairwise (fun a b => a.1 < b.1)
def atI : PL → Int → Nat
  | [], _ => 0
  | p :: L, k => if k ≤ p.1 then 0 else atI L k + 1
def hasK (L : PL) (k : Int) : Bool := match L[atI L k]? with
  | some p => p.1 == k
  | none => false
def valK (L : PL) (k : Int) : Int := match L[atI L k]? with
  | some p => if p.1 = k then p.2 else 0
  | none => 0
theorem atI_le (L : PL) (k : Int) : atI L k ≤ L.length := by
  induction L with
  | nil => exact Nat.le_refl _
  | cons p L ih =>
    unfold atI
    split
    · simp
    · simp; exact ih
theorem atI_before (L : PL) (k : Int) : ∀ (i : Nat) (h : i < L.length), i < atI L k → L[i].1 < k := by
  induction L with
  | nil => intro i h; simp at h
  | cons p L ih =>
    intro i h hi
    unfold atI at hi
    split at hi
    · omega
    · rename_i hp
      cases i with
      | zero => simp; omega
      | succ i => simpa using ih i (by simpa using h) (by omega)
theorem atI_at (L : PL) (k : Int) : ∀ (h : atI L k < L.length), k ≤ (L[atI L k]'h).1 := by
  induction L with
  | nil => intro h; simp at h
  | cons p L ih =>
    intro h
    by_cases hp : k ≤ p.1
    · have e : atI (p :: L) k = 0 := if_pos hp
      simp only [e, List.getElem_cons_zero]
      exact hp
    · have e : atI (p :: L) k = atI L k + 1 := if_neg hp
      simp only [e, List.getElem_cons_succ]
      exact ih (by rw [e] at h; simpa using h)
theorem atI_eq {L : PL} {k : Int} {i : Nat} (hi : i ≤ L.length) (h1 : ∀ (j : Nat) (h : j < L.length), j < i → L[j].1 < k) (h2 : ∀ h : i < L.length, k ≤ (L[i]'h).1) : atI L k = i := by
  have h3 := atI_le L k
  rcases Nat.lt_trichotomy (atI L k) i with h | h | h
  · have := atI_at L k (by omega)
    have := h1 (atI L k) (by omega) h
    omega
  · exact h
  · have := atI_before L k i (by omega) h
    have := h2 (by omega)
    omega
theorem mem_at {L : PL} (hA : Asc L) {k v : Int} (h : (k, v) ∈ L) : L[atI L k]? = some (k, v) := by
  obtain ⟨i, hi⟩ := List.getElem?_of_mem h
  obtain ⟨hl, he⟩ := List.getElem?_eq_some_iff.1 hi
  have e : atI L k = i := atI_eq (by omega) (fun j hj hji => by
    have := List.pairwise_iff_getElem.1 hA j i hj hl hji
    rw [he] at this
    exact this) (fun _ => by rw [he]; exact Int.le_refl _)
  rw [e, hi]
theorem has_of {L : PL} (hA : Asc L) {k v : Int} (h : (k, v) ∈ L) : hasK L k = true ∧ valK L k = v := by
  have e := mem_at hA h
  unfold hasK valK
  rw [e]
  simp
theorem has_no {L : PL} {k : Int} (h : ∀ v, (k, v) ∉ L) : hasK L k = false ∧ valK L k = 0 := by
  unfold hasK valK
  cases e : L[atI L k]? with
  | none => exact ⟨rfl, rfl⟩
  | some p =>
    have hne : p.1 ≠ k := fun hk => h p.2 (by rw [← hk]; exact List.mem_of_getElem? e)
    simp [hne]
theorem has_mem {L : PL} {k : Int} (h : hasK L k = true) : (k, valK L k) ∈ L ∧ atI L k < L.length ∧ L[atI L k]? = some (k, valK L k) := by
  unfold hasK at h
  unfold valK
  cases e : L[atI L k]? with
  | none => rw [e] at h; cases h
  | some p =>
    rw [e] at h
    simp only [beq_iff_eq] at h
    simp only [h, if_true]
    have : p = (k, p.2) := by rw [← h]
    exact ⟨this ▸ List.mem_of_getElem? e, (List.getElem?_eq_some_iff.1 e).1, congrArg some this⟩
/-- the pairs with another one; the error -/
def putL (L : PL) (k v : Int) : PL × Int :=
  if k = 0 then (L, 9) else if hasK L k = false ∧ 4096 ≤ L.length then (L, 3) else (L.take (atI L k) ++ (k, v) :: L.drop (atI L k + if hasK L k then 1 else 0), 0)
def dropL (L : PL) (k : Int) : PL × Bool := if hasK L k then (L.take (atI L k) ++ L.drop (atI L k + 1), true) else (L, false)
theorem has_split {L : PL} {k : Int} (h : hasK L k = true) : L = L.take (atI L k) ++ (k, valK L k) :: L.drop (atI L k + 1) := by
  obtain ⟨_, h2, h3⟩ := has_mem h
  obtain ⟨_, he⟩ := List.getElem?_eq_some_iff.1 h3
  rw [← he, List.getElem_cons_drop, List.take_append_drop]
theorem asc_around {L : PL} (hA : Asc L) {k v : Int} {i j : Nat} (_hij : i ≤ j) (h1 : ∀ (p : Nat) (h : p < L.length), p < i → L[p].1 < k) (h2 : ∀ (p : Nat) (h : p < L.length), j ≤ p → k < L[p].1) : Asc (L.take i ++ (k, v) :: L.drop j) := by
  unfold Asc at *
  rw [List.pairwise_append, List.pairwise_cons]
  refine ⟨hA.sublist (List.take_sublist _ _), ⟨?_, hA.sublist (List.drop_sublist _ _)⟩, ?_⟩
  · intro b hb
    obtain ⟨p, hp, rfl⟩ := List.getElem_of_mem hb
    rw [List.getElem_drop]
    rw [List.length_drop] at hp
    exact h2 (j + p) (by omega) (by omega)
  · intro a ha b hb
    obtain ⟨p, hp, rfl⟩ := List.getElem_of_mem ha
    rw [List.length_take] at hp
    rw [List.getElem_take]
    rcases List.mem_cons.1 hb with rfl | hb
    · exact h1 p (by omega) (by omega)
    · obtain ⟨q, hq, rfl⟩ := List.getElem_of_mem hb
      rw [List.getElem_drop]
      rw [List.length_drop] at hq
      exact Int.lt_trans (h1 p (by omega) (by omega)) (h2 (j + q) (by omega) (by omega))
theorem asc_put {L : PL} (hA : Asc L) (k v : Int) : Asc (putL L k v).1 := by
  unfold putL
  split
  · exact hA
  split
  · exact hA
  refine asc_around hA (Nat.le_add_right _ _) (atI_before L k) ?_
  intro p hp hle
  by_cases hh : hasK L k = true
  · rw [if_pos hh] at hle
    obtain ⟨_, h2, h3⟩ := has_mem hh
    have := List.pairwise_iff_getElem.1 hA (atI L k) p h2 hp (by omega)
    obtain ⟨_, he⟩ := List.getElem?_eq_some_iff.1 h3
    rw [he] at this
    exact this
  · rw [if_neg hh, Nat.add_zero] at hle
    have hlt : atI L k < L.length := by omega
    have h4 := atI_at L k hlt
    have h5 : (L[atI L k]'hlt).1 ≠ k := fun e => hh (by unfold hasK; rw [List.getElem?_eq_getElem hlt]; simpa using e)
    rcases Nat.lt_or_eq_of_le hle with h | h
    · have := List.pairwise_iff_getElem.1 hA (atI L k) p hlt hp h
      omega
    · subst h
      omega
theorem asc_drop {L : PL} (hA : Asc L) (k : Int) : Asc (dropL L k).1 := by
  unfold dropL
  split
  · rename_i h
    have := has_split h
    refine hA.sublist ?_
    conv => rhs; rw [this]
    exact List.Sublist.append (List.Sublist.refl _) (List.sublist_cons_self _ _)
  · exact hA
theorem put_perm_new {L : PL} {k v : Int} (hk : k ≠ 0) (hn : hasK L k = false) (hl : L.length < 4096) : (putL L k v).2 = 0 ∧ ((putL L k v).1).Perm ((k, v) :: L) := by
  unfold putL
  rw [if_neg hk, if_neg (by omega), if_neg (by rw [hn]; decide), Nat.add_zero]
  refine ⟨rfl, List.perm_middle.trans ?_⟩
  rw [List.take_append_drop]
theorem put_perm_old {L : PL} {k v : Int} (hk : k ≠ 0) (hn : hasK L k = true) : (putL L k v).2 = 0 ∧ ∃ m, ((putL L k v).1).Perm ((k, v) :: m) ∧ L.Perm ((k, valK L k) :: m) := by
  unfold putL
  rw [if_neg hk, if_neg (by rw [hn]; simp), if_pos hn]
  refine ⟨rfl, L.take (atI L k) ++ L.drop (atI L k + 1), List.perm_middle, ?_⟩
  conv => lhs; rw [has_split hn]
  exact List.perm_middle
theorem drop_perm {L : PL} {k : Int} (hn : hasK L k = true) : L.Perm ((k, valK L k) :: (dropL L k).1) := by
  unfold dropL
  rw [if_pos hn]
  conv => lhs; rw [has_split hn]
  exact List.perm_middle
theorem asc_nodup {L : PL} (hA : Asc L) : (L.map (·.1)).Nodup := by
  unfold List.Nodup
  rw [List.pairwise_map]
  exact hA.imp (fun h => by omega)
end Go.Proofs.Ytedekcphgcmlnaa
