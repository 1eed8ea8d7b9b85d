/- The last step for a key decides. -/
import Derived.Test.YtedekcphgcmlnaaOfW
namespace Go.Proofs.Ytedekcphgcmlnaa
open Go.RowKit

theorem step_asc {L : PL} (hA : Asc L) (s : St) : Asc (stepL L s) := by
  unfold stepL
  split
  · exact asc_drop hA _
  · exact asc_put hA _ _
theorem step_other {L : PL} {s : St} {k : Int} (h : s.key ≠ k) (u : Int) : (k, u) ∈ stepL L s ↔ (k, u) ∈ L := by
  have hne : ∀ v, (k, u) ≠ (s.key, v) := fun v e => h (congrArg Prod.fst e).symm
  unfold stepL
  split
  · by_cases hh : hasK L s.key = true
    · rw [(drop_perm hh).mem_iff, List.mem_cons]
      exact ⟨.inr, fun h => h.resolve_left (hne _)⟩
    · unfold dropL
      rw [if_neg hh]
  · by_cases hk : s.key = 0
    · unfold putL
      rw [if_pos hk]
    · by_cases hh : hasK L s.key = true
      · obtain ⟨_, m, h1, h2⟩ := put_perm_old (v := s.v) hk hh
        rw [h1.mem_iff, h2.mem_iff, List.mem_cons, List.mem_cons]
        exact ⟨fun h => .inr (h.resolve_left (hne _)), fun h => .inr (h.resolve_left (hne _))⟩
      · have hf : hasK L s.key = false := by simpa using hh
        by_cases hl : L.length < 4096
        · rw [(put_perm_new hk hf hl).2.mem_iff, List.mem_cons]
          exact ⟨fun h => h.resolve_left (hne _), .inr⟩
        · unfold putL
          rw [if_neg hk, if_pos ⟨hf, by omega⟩]
theorem step_here {L : PL} (hA : Asc L) {s : St} (hk : s.key ≠ 0) (hl : L.length < 4096) :
    if s.drop then (∀ u, (s.key, u) ∉ stepL L s) else (s.key, s.v) ∈ stepL L s := by
  unfold stepL
  cases hd : s.drop with
  | true =>
    simp only [if_true]
    intro u hu
    by_cases hh : hasK L s.key = true
    · have hn := (asc_nodup hA)
      have hp := (drop_perm hh).map (·.1)
      rw [hp.nodup_iff] at hn
      simp only [List.map_cons, List.nodup_cons] at hn
      exact hn.1 (List.mem_map.2 ⟨_, hu, rfl⟩)
    · unfold dropL at hu
      rw [if_neg hh] at hu
      exact hh (has_of hA hu).1
  | false =>
    simp only [Bool.false_eq_true, if_false]
    by_cases hh : hasK L s.key = true
    · obtain ⟨_, m, h1, h2⟩ := put_perm_old (v := s.v) hk hh
      rw [h1.mem_iff]
      exact List.mem_cons_self
    · rw [(put_perm_new hk (by simpa using hh) hl).2.mem_iff]
      exact List.mem_cons_self
theorem prsT_asc (xs : List St) (i : Nat) : Asc (prsT xs i) := by
  unfold prsT
  generalize xs.take i = l
  have : ∀ (l : List St) (L : PL), Asc L → Asc (l.foldl stepL L) := by
    intro l
    induction l with
    | nil => intro L h; exact h
    | cons s l ih => intro L h; exact ih _ (step_asc h s)
  exact this l [] List.Pairwise.nil
/-- the last step for a key decides -/
theorem last_step {xs : List St} {p : Nat} (hp : p < xs.length) (hk : xs[p].key ≠ 0) (hl : xs.length ≤ 4096) (n : Nat) (hpn : p < n) (hn : n ≤ xs.length) (ho : ∀ q (h : q < xs.length), p < q → q < n → xs[q].key ≠ xs[p].key) :
    if xs[p].drop then (∀ u, (xs[p].key, u) ∉ prsT xs n) else (xs[p].key, xs[p].v) ∈ prsT xs n := by
  induction n with
  | zero => omega
  | succ n ih =>
    rw [prsT_succ (show n < xs.length by omega)]
    rcases Nat.lt_or_eq_of_le (Nat.le_of_lt_succ hpn) with h | h
    · have h1 := ih h (by omega) (fun q hq h1 h2 => ho q hq h1 (by omega))
      have h2 := ho n (by omega) h (by omega)
      revert h1
      cases xs[p].drop with
      | true =>
        simp only [if_true]
        exact fun h1 u hu => h1 u ((step_other h2 u).1 hu)
      | false =>
        simp only [Bool.false_eq_true, if_false]
        exact fun h1 => (step_other h2 _).2 h1
    · subst h
      exact step_here (prsT_asc xs p) hk (Nat.lt_of_le_of_lt (prsT_len xs p) (by omega))
theorem last_has {xs : List St} {p : Nat} (hp : p < xs.length) (hk : xs[p].key ≠ 0) (hl : xs.length ≤ 4096) (ho : ∀ q (h : q < xs.length), p < q → xs[q].key ≠ xs[p].key) :
    hasK (prsT xs xs.length) xs[p].key = !xs[p].drop ∧ (xs[p].drop = false → valK (prsT xs xs.length) xs[p].key = xs[p].v) := by
  have h := last_step hp hk hl xs.length hp (Nat.le_refl _) (fun q hq h1 _ => ho q hq h1)
  revert h
  cases xs[p].drop with
  | true =>
    simp only [if_true]
    exact fun h => ⟨(has_no h).1, fun h => by cases h⟩
  | false =>
    simp only [Bool.false_eq_true, if_false]
    intro h
    obtain ⟨h1, h2⟩ := has_of (prsT_asc xs xs.length) h
    exact ⟨h1, fun _ => h2⟩
/-- the steps of two maps, one after the other -/
def bothT (xs ys : List St) : List St := xs.take 40 ++ ys.take 40
theorem both_len (xs ys : List St) : (bothT xs ys).length = min xs.length 40 + min ys.length 40 := by
  unfold bothT
  rw [List.length_append, List.length_take, List.length_take]
  omega
theorem both_get {xs ys : List St} {i : Nat} (h1 : i < ys.length) (h2 : i < 40) : ∃ h : min xs.length 40 + i < (bothT xs ys).length, (bothT xs ys)[min xs.length 40 + i] = ys[i] := by
  have hl := both_len xs ys
  refine ⟨by omega, ?_⟩
  unfold bothT
  have e : (xs.take 40).length = min xs.length 40 := by rw [List.length_take]; omega
  rw [List.getElem_append_right (by omega)]
  rw [List.getElem_take]
  congr 1
  omega
theorem both_last {xs ys : List St} {i : Nat} (h1 : i < ys.length) (h2 : i < 40) (hk : ys[i].key ≠ 0) (ho : ∀ q (h : q < ys.length), i < q → q < 40 → ys[q].key ≠ ys[i].key) :
    hasK (prsT (bothT xs ys) (bothT xs ys).length) ys[i].key = !ys[i].drop ∧ (ys[i].drop = false → valK (prsT (bothT xs ys) (bothT xs ys).length) ys[i].key = ys[i].v) := by
  obtain ⟨hp, he⟩ := both_get (xs := xs) h1 h2
  have hl := both_len xs ys
  rw [← he] at hk ⊢
  refine last_has hp hk (by omega) (fun q hq hpq => ?_)
  obtain ⟨j, rfl⟩ : ∃ j, q = min xs.length 40 + j := ⟨q - min xs.length 40, by omega⟩
  obtain ⟨hq2, he2⟩ := both_get (xs := xs) (ys := ys) (i := j) (by omega) (by omega)
  rw [he2, he]
  exact ho j (by omega) (by omega) (by omega)
end Go.Proofs.Ytedekcphgcmlnaa
