/- Plain mathematics: a map's slots hold the pairs of a list; what a change makes of both. -/
import Derived.Test.YtedekcphgcmlnaaPlain
namespace Go.Proofs.Ytedekcphgcmlnaa

structure Good (S : List Sl) (L : PL) (M : Nat) : Prop where
  path : Paths S
  perm : (prs S).Perm L
  asc : Asc L
  pow : S = [] ∨ ∃ q, 3 ≤ q ∧ q ≤ 13 ∧ S.length = 2 ^ q
  room : 4 * (L.length + tms S) ≤ 3 * S.length
  size : S.length ≤ max 8 (8 * M)
  cnt : L.length ≤ M
  lim : L.length ≤ 4096
theorem good_nil (M : Nat) : Good [] [] M := ⟨fun i k v h => by simp at h, List.Perm.refl _, List.Pairwise.nil, .inl rfl, by simp [tms], by simp, by simp, by simp⟩
theorem Good.more {S : List Sl} {L : PL} {M N : Nat} (h : Good S L M) (hN : M ≤ N) : Good S L N :=
  ⟨h.path, h.perm, h.asc, h.pow, h.room, Nat.le_trans h.size (by omega), Nat.le_trans h.cnt hN, h.lim⟩
theorem Good.len {S : List Sl} {L : PL} {M : Nat} (h : Good S L M) : (prs S).length = L.length := h.perm.length_eq
theorem Good.nil_of {L : PL} {M : Nat} (h : Good [] L M) : L = [] := List.nil_perm.1 h.perm
theorem Good.long {S : List Sl} {L : PL} {M : Nat} (h : Good S L M) : S.length ≤ 8192 := by
  rcases h.pow with rfl | ⟨q, _, h2, h3⟩
  · simp
  · rw [h3]
    exact Nat.le_trans (Nat.pow_le_pow_right (by decide) h2) (by decide)
theorem Good.ex {S : List Sl} {L : PL} {M : Nat} (h : Good S L M) (hS : S ≠ []) : (∃ q, 3 ≤ q ∧ q ≤ 13 ∧ S.length = 2 ^ q) ∧ ∃ i : Nat, S[i]? = some .free := by
  rcases h.pow with rfl | hq
  · exact absurd rfl hS
  · refine ⟨hq, free_of ?_⟩
    rw [h.len]
    have := h.room
    have : 0 < S.length := List.length_pos_iff.2 hS
    omega
theorem Good.hit {S : List Sl} {L : PL} {M : Nat} (h : Good S L M) {k : Int} {i : Nat} (hh : Hit S k i) : hasK L k = true ∧ S[i]? = some (.taken k (valK L k)) := by
  obtain ⟨v, hv⟩ := hh.is
  have hm : (k, v) ∈ L := h.perm.subset (mem_prs.2 ⟨i, hv⟩)
  obtain ⟨h1, h2⟩ := has_of h.asc hm
  exact ⟨h1, by rw [h2]; exact hv⟩
theorem Good.miss {S : List Sl} {L : PL} {M : Nat} (h : Good S L M) {k : Int} {i : Nat} (hh : Miss S k i) : hasK L k = false ∧ valK L k = 0 :=
  has_no fun v hv => by
    obtain ⟨j, hj⟩ := mem_prs.1 (h.perm.symm.subset hv)
    exact hh.no j v hj
theorem Good.put_old {S : List Sl} {L : PL} {M : Nat} (h : Good S L M) {k : Int} {i : Nat} (hh : Hit S k i) (hk : k ≠ 0) (v : Int) :
    (putL L k v).2 = 0 ∧ (putL L k v).1.length = L.length ∧ Good (S.set i (.taken k v)) (putL L k v).1 M := by
  obtain ⟨h1, h2⟩ := h.hit hh
  obtain ⟨e0, m, p1, p2⟩ := put_perm_old (v := v) hk h1
  obtain ⟨m', q1, q2⟩ := prs_set_val h2 v
  have hmm : m'.Perm m := (List.perm_cons _).1 ((q1.symm.trans h.perm).trans p2)
  have hl : (putL L k v).1.length = L.length := by rw [p1.length_eq, p2.length_eq]; rfl
  refine ⟨e0, hl, ?_, (q2.trans (hmm.cons _)).trans p1.symm, asc_put h.asc k v, ?_, ?_, ?_, ?_, ?_⟩
  · exact paths_set h.path (by simp) (fun k' v' e => by injection e with e1 e2; subst e1; exact h.path i k (valK L k) h2)
  · rcases h.pow with rfl | hq
    · exact .inl rfl
    · exact .inr (by simpa using hq)
  · have := tms_set h2 (.taken k v)
    simp [Sl.isTomb] at this
    rw [hl, this, List.length_set]
    exact h.room
  · rw [List.length_set]; exact h.size
  · rw [hl]; exact h.cnt
  · rw [hl]; exact h.lim
theorem Good.put_new {S : List Sl} {L : PL} {M : Nat} (h : Good S L M) {k : Int} {i : Nat} (hh : Miss S k i) (hk : k ≠ 0) (v : Int) (hl : L.length < 4096) (hr : 4 * (L.length + tms S + 1) ≤ 3 * S.length) :
    (putL L k v).2 = 0 ∧ (putL L k v).1.length = L.length + 1 ∧ Good (S.set i (.taken k v)) (putL L k v).1 (max M (L.length + 1)) := by
  obtain ⟨h1, _⟩ := h.miss hh
  obtain ⟨e0, p1⟩ := put_perm_new (v := v) hk h1 hl
  have hl2 : (putL L k v).1.length = L.length + 1 := by rw [p1.length_eq]; rfl
  have hs : ∃ s, S[i]? = some s ∧ s.pr = none ∧ tms (S.set i (.taken k v)) ≤ tms S := by
    rcases hh.is with e | e
    · refine ⟨_, e, rfl, ?_⟩
      have := tms_set e (.taken k v)
      simp [Sl.isTomb] at this
      omega
    · refine ⟨_, e, rfl, ?_⟩
      have := tms_set e (.taken k v)
      simp [Sl.isTomb] at this
      omega
  obtain ⟨s, es, en, ht⟩ := hs
  refine ⟨e0, hl2, ?_, (prs_set_new es en k v).trans ((h.perm.cons _).trans p1.symm), asc_put h.asc k v, ?_, ?_, ?_, ?_, ?_⟩
  · exact paths_set h.path (by simp) (fun k' v' e => by injection e with e1 e2; subst e1; exact hh.path)
  · rcases h.pow with rfl | hq
    · exact .inl rfl
    · exact .inr (by simpa using hq)
  · rw [hl2, List.length_set]
    omega
  · rw [List.length_set]; exact Nat.le_trans h.size (by omega)
  · rw [hl2]; omega
  · rw [hl2]; omega
theorem put_full {L : PL} {k : Int} (hk : k ≠ 0) (v : Int) (h : hasK L k = false) (hl : L.length = 4096) : putL L k v = (L, 3) := by
  unfold putL
  rw [if_neg hk, if_pos ⟨h, by omega⟩]
theorem put_zero (L : PL) (v : Int) : putL L 0 v = (L, 9) := if_pos rfl
theorem drop_no {L : PL} {k : Int} (h : hasK L k = false) : dropL L k = (L, false) := by
  unfold dropL
  rw [h]
  rfl
theorem drop_yes {L : PL} {k : Int} (h : hasK L k = true) : (dropL L k).2 = true := by
  unfold dropL
  rw [h]
  rfl
theorem Good.drop {S : List Sl} {L : PL} {M : Nat} (h : Good S L M) {k : Int} {i : Nat} (hh : Hit S k i) :
    (dropL L k).1.length + 1 = L.length ∧ tms (S.set i .tomb) = tms S + 1 ∧ Good (S.set i .tomb) (dropL L k).1 M := by
  obtain ⟨h1, h2⟩ := h.hit hh
  have p1 := drop_perm h1
  have q1 := prs_set_old h2
  have hl : (dropL L k).1.length + 1 = L.length := by rw [p1.length_eq]; rfl
  have ht := tms_set h2 .tomb
  simp [Sl.isTomb] at ht
  refine ⟨hl, ht, ?_, (List.perm_cons _).1 ((q1.symm.trans h.perm).trans p1), asc_drop h.asc k, ?_, ?_, ?_, ?_, ?_⟩
  · exact paths_set h.path (by simp) (fun k' v' e => by simp at e)
  · rcases h.pow with rfl | hq
    · exact .inl rfl
    · exact .inr (by simpa using hq)
  · have := h.room
    rw [List.length_set, ht]
    omega
  · rw [List.length_set]; exact h.size
  · have := h.cnt; omega
  · have := h.lim; omega

/-! new slots -/
/-- the first i slots of S have come into the new slots N -/
structure Renew (S N : List Sl) (n i : Nat) : Prop where
  len : N.length = n
  path : Paths N
  perm : (prs N).Perm (prs (S.take i))
  nt : tms N = 0
theorem renew_zero (S : List Sl) (n : Nat) : Renew S (List.replicate n .free) n 0 := by
  have e : ∀ m, prs (List.replicate m .free) = [] := fun m => by
    induction m with
    | zero => rfl
    | succ m ih => exact ih
  have e2 : ∀ m, tms (List.replicate m .free) = 0 := fun m => by
    unfold tms
    rw [List.countP_eq_zero]
    intro a ha
    rw [List.eq_of_mem_replicate ha]
    decide
  refine ⟨List.length_replicate, fun i k v h => ?_, ?_, e2 n⟩
  · have := List.mem_of_getElem? h
    have := List.eq_of_mem_replicate this
    cases this
  · rw [e, List.take_zero]; exact List.Perm.refl _
theorem Renew.keep {S N : List Sl} {n i : Nat} (h : Renew S N n i) {s : Sl} (hs : S[i]? = some s) (hp : s.pr = none) : Renew S N n (i + 1) := by
  refine ⟨h.len, h.path, h.perm.trans ?_, h.nt⟩
  have e : S.take (i + 1) = S.take i ++ [s] := by rw [List.take_add_one, hs]; rfl
  rw [e, prs_app]
  have e2 : prs [s] = [] := List.filterMap_cons_none hp
  rw [e2, List.append_nil]
theorem take_len {S : List Sl} {i : Nat} : (prs (S.take i)).length ≤ (prs S).length := by
  have : prs S = prs (S.take i) ++ prs (S.drop i) := by rw [← prs_app, List.take_append_drop]
  rw [this, List.length_append]
  omega
theorem Renew.free {S N : List Sl} {n i : Nat} (h : Renew S N n i) (hn : (prs S).length < n) : ∃ i : Nat, N[i]? = some .free := by
  refine free_of ?_
  rw [h.perm.length_eq, h.nt, h.len]
  have := take_len (S := S) (i := i)
  omega
theorem Renew.no {S N : List Sl} {n i : Nat} (h : Renew S N n i) {L : PL} (hL : (prs S).Perm L) (hA : Asc L) {k v : Int} (hs : S[i]? = some (.taken k v)) (j : Nat) (hh : Hit N k j) : False := by
  obtain ⟨u, hu⟩ := hh.is
  have hm : (k, u) ∈ prs (S.take i) := h.perm.subset (mem_prs.2 ⟨j, hu⟩)
  have e := split_at hs
  have e2 : prs S = prs (S.take i) ++ (k, v) :: prs (S.drop (i + 1)) := by
    conv => lhs; rw [e]
    rw [prs_app]
    rfl
  have hd : ((prs S).map (·.1)).Nodup := (List.Perm.map _ hL).nodup_iff.2 (asc_nodup hA)
  rw [e2, List.map_append, List.map_cons, List.nodup_append] at hd
  exact hd.2.2 k (List.mem_map_of_mem (f := (·.1)) hm) k (List.mem_cons_self ..) rfl
theorem Renew.put {S N : List Sl} {n i : Nat} (h : Renew S N n i) {k v : Int} (hs : S[i]? = some (.taken k v)) {j : Nat} (hh : Miss N k j) : Renew S (N.set j (.taken k v)) n (i + 1) := by
  have hf : N[j]? = some .free := by
    rcases hh.is with e | e
    · exact e
    · have := h.nt
      unfold tms at this
      rw [List.countP_eq_zero] at this
      exact absurd rfl (this _ (List.mem_of_getElem? e))
  refine ⟨by rw [List.length_set]; exact h.len, ?_, ?_, ?_⟩
  · exact paths_set h.path (by simp) (fun k' v' e => by injection e with e1 e2; subst e1; exact hh.path)
  · have e : S.take (i + 1) = S.take i ++ [.taken k v] := by rw [List.take_add_one, hs]; rfl
    rw [e, prs_app]
    have e2 : prs [Sl.taken k v] = [(k, v)] := rfl
    rw [e2]
    exact ((prs_set_new hf rfl k v).trans (h.perm.cons _)).trans (List.perm_append_singleton _ _).symm
  · have := tms_set hf (.taken k v)
    simp [Sl.isTomb] at this
    rw [this]; exact h.nt
theorem Renew.good {S N : List Sl} {L : PL} {M n : Nat} (h : Renew S N n S.length) (hG : Good S L M) (hl : L.length < 4096) {q : Nat} (hq : 3 ≤ q) (hn : n = 2 ^ q) (h1 : 2 * (L.length + 1) ≤ n) (h2 : n = 8 ∨ n < 4 * (L.length + 1)) :
    Good N L (max M (L.length + 1)) ∧ 4 * (L.length + tms N + 1) ≤ 3 * N.length := by
  have hp : (prs N).Perm L := by
    have := h.perm
    rw [List.take_length] at this
    exact this.trans hG.perm
  refine ⟨⟨h.path, hp, hG.asc, .inr ⟨q, hq, ?_, by rw [h.len, hn]⟩, ?_, ?_, ?_, hG.lim⟩, ?_⟩
  · rcases Nat.lt_or_ge 13 q with hc | hc
    · have : 2 ^ 14 ≤ 2 ^ q := Nat.pow_le_pow_right (by decide) hc
      have e : 2 ^ 14 = 16384 := by decide
      omega
    · exact hc
  · rw [h.nt, h.len]; omega
  · rw [h.len]; omega
  · omega
  · rw [h.nt, h.len]; omega
end Go.Proofs.Ytedekcphgcmlnaa
