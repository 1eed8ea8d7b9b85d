/- Plain mathematics: the moves make the old order the new one; a ring of links. No program. -/
import Derived.Test.YtejgcpohdbiaoaaOrd
namespace Go.Proofs.Ytejgcpohdbiaoaa

theorem getD_in {l : List Int} {i : Nat} (h : i < l.length) (d : Int) : l.getD i d = l[i] := by
  rw [List.getD_eq_getElem?_getD, List.getElem?_eq_getElem h]; rfl
/-- what stays in sight when the last j numbers have their places -/
def Seen (now : List Int) (KN : List Int) (j : Nat) (y : Int) : Bool := decide (y ∈ now.drop (now.length - j)) || decide (y ∈ KN)
theorem seen_step {now KN : List Int} {i j : Nat} (hi : i < now.length) (hj : now.length - j = i + 1) (y : Int) : Seen now KN (j + 1) y = (decide (y = now[i]) || Seen now KN j y) := by
  unfold Seen
  rw [hj, show now.length - (j + 1) = i by omega, List.drop_eq_getElem_cons hi]
  simp only [List.mem_cons, Bool.decide_or, Bool.or_assoc]
theorem moves_at {old now : List Int} (ho : Ord old) (hn : Ord now) (hp : now.Perm old) (j : Nat) (hj : j ≤ now.length) :
    ∃ m, carL old (mvJ now (keptP old now) j) = (m, 0) ∧ m.Perm old ∧ m.filter (Seen now (keptL old now) j) = (now.take (now.length - j)).filter (· ∈ keptL old now) ++ now.drop (now.length - j) := by
  obtain ⟨k1, k2⟩ := kept_ok old now
  induction j with
  | zero =>
    refine ⟨old, rfl, List.Perm.refl _, ?_⟩
    have e1 : now.drop (now.length - 0) = [] := by rw [Nat.sub_zero, List.drop_length]
    have e2 : now.take (now.length - 0) = now := by rw [Nat.sub_zero, List.take_length]
    rw [e1, e2, List.append_nil]
    have e3 : old.filter (Seen now (keptL old now) 0) = old.filter (· ∈ keptL old now) := List.filter_congr fun x _ => by
      unfold Seen; rw [e1]; simp
    rw [e3, kept_old ho hn hp]
    exact (sub_filter (kept_sub k2 k1) hn.nd).symm
  | succ j ih =>
    obtain ⟨m, h1, h2, h3⟩ := ih (by omega)
    have hi : now.length - 1 - j < now.length := by omega
    obtain ⟨i, hii⟩ : ∃ i, now.length - 1 - j = i := ⟨_, rfl⟩
    rw [hii] at hi
    have hj1 : now.length - j = i + 1 := by omega
    have hj2 : now.length - (j + 1) = i := by omega
    have hkm := kept_mem hn.nd hi k2
    have hdr := List.drop_eq_getElem_cons hi
    have htk := List.take_succ_eq_append_getElem hi
    have hss := seen_step (KN := keptL old now) hi hj1
    rw [hj1] at h3
    rw [hj2]
    by_cases hK : i ∈ keptP old now
    · refine ⟨m, ?_, h2, ?_⟩
      · rw [mvJ, hii, if_pos hK, List.append_nil]; exact h1
      · have hKN : now[i] ∈ keptL old now := hkm.2 hK
        have e : m.filter (Seen now (keptL old now) (j + 1)) = m.filter (Seen now (keptL old now) j) := List.filter_congr fun x _ => by
          rw [hss]
          by_cases hx : x = now[i]
          · subst hx
            unfold Seen
            simp [hKN]
          · simp [hx]
        rw [e, h3, htk, List.filter_append, hdr, List.append_assoc]
        congr 1
        simp [hKN]
    · have hKN : now[i] ∉ keptL old now := fun h => hK (hkm.1 h)
      obtain ⟨a, ha⟩ : ∃ a, nxt now i = a := ⟨_, rfl⟩
      have hxm : now[i] ∈ m := (h2.mem_iff).2 (hp.mem_iff.1 (List.getElem_mem hi))
      have hom : Ord m := ho.perm h2
      have hmn : m.Perm now := h2.trans hp.symm
      -- the number ahead of which it is put
      have hcase : (i + 1 = now.length ∧ a = -1) ∨ ∃ h : i + 1 < now.length, a = now[i + 1] := by
        rcases Nat.lt_or_ge (i + 1) now.length with h | h
        · exact .inr ⟨h, by rw [← ha]; exact getD_in h _⟩
        · exact .inl ⟨by omega, by rw [← ha]; unfold nxt; rw [List.getD_eq_getElem?_getD, List.getElem?_eq_none (by omega)]; rfl⟩
      have hne : now[i] ≠ a := by
        rcases hcase with ⟨_, e⟩ | ⟨h, e⟩
        · have := hn.nn _ (List.getElem_mem hi); omega
        · intro e2
          rw [e] at e2
          have := (List.getElem_inj hn.nd).1 e2
          omega
      have hst : stepE m now[i] a = 0 := by
        unfold stepE
        rw [if_neg, if_neg hne]
        rintro (h | ⟨h4, h5⟩)
        · exact h hxm
        · rcases hcase with ⟨_, e⟩ | ⟨h, e⟩
          · exact h4 e
          · exact h5 (e ▸ hmn.mem_iff.2 (List.getElem_mem h))
      refine ⟨mvL now[i] a m, ?_, (mvL_perm hom hst).trans h2, ?_⟩
      · rw [mvJ, hii, if_neg hK, carL_app h1, getD_in hi, ha]
        simp only [carL]
        rw [if_pos hst]
      · -- on the list with the end
        have hx1 : now[i] ≠ -1 := by have := hn.nn _ (List.getElem_mem hi); omega
        have hP : ∀ y : Int, ((decide (y = -1) || Seen now (keptL old now) (j + 1) y) = true) ↔ (y = -1 ∨ y = now[i] ∨ Seen now (keptL old now) j y = true) := fun y => by rw [hss]; simp
        have hneg : Seen now (keptL old now) (j + 1) (-1) = false := by
          unfold Seen
          have e1 : (-1 : Int) ∉ now.drop (now.length - (j + 1)) := fun h => by have := hn.nn _ (List.mem_of_mem_drop h); omega
          have e2 : (-1 : Int) ∉ keptL old now := fun h => by have := hn.nn _ ((kept_sub k2 k1).subset h); omega
          simp [e1, e2]
        have key : (mvL now[i] a m ++ [-1]).filter (fun y => decide (y = -1) || Seen now (keptL old now) (j + 1) y) = (mvL now[i] a m).filter (Seen now (keptL old now) (j + 1)) ++ [-1] := by
          rw [List.filter_append]
          congr 1
          · refine List.filter_congr fun y hy => ?_
            have : y ≠ -1 := by
              have := (hom.perm (mvL_perm hom hst)).nn y hy
              omega
            simp [this]
        have hPa : (decide (a = -1) || Seen now (keptL old now) (j + 1) a) = true := by
          rcases hcase with ⟨_, e⟩ | ⟨h, e⟩
          · simp [e]
          · refine (hP a).2 (.inr (.inr ?_))
            unfold Seen
            rw [hj1]
            have : a ∈ now.drop (i + 1) := by rw [e, List.drop_eq_getElem_cons h]; exact List.mem_cons_self
            simp [this]
        rw [mvL_end hx1, mvT_filter (P := fun y => decide (y = -1) || Seen now (keptL old now) (j + 1) y) ((hP _).2 (.inr (.inl rfl))) hPa, List.filter_append] at key
        -- out with the number that is moved
        obtain ⟨u, v, huv⟩ := List.append_of_mem hxm
        have hm1 : now[i] ∉ u ++ v := by
          have := hom.nd
          rw [huv] at this
          exact (List.nodup_cons.1 (List.perm_middle.nodup_iff.1 this)).1
        have hsj : Seen now (keptL old now) j now[i] = false := by
          unfold Seen
          rw [hj1]
          have : now[i] ∉ now.drop (i + 1) := by
            have h4 := hn.nd
            rw [← List.take_append_drop i now, hdr] at h4
            have h5 := (List.nodup_append.1 h4).2.1
            exact (List.nodup_cons.1 h5).1
          simp [this, hKN]
        have e4 : m.filter (fun y => decide (y = -1) || Seen now (keptL old now) (j + 1) y) = u.filter (Seen now (keptL old now) j) ++ now[i] :: v.filter (Seen now (keptL old now) j) := by
          have hc : ∀ y ∈ u ++ v, (decide (y = -1) || Seen now (keptL old now) (j + 1) y) = Seen now (keptL old now) j y := fun y hy => by
            have h4 : y ≠ now[i] := fun e => hm1 (e ▸ hy)
            have h5 : y ∈ m := by rw [huv]; simp only [List.mem_append, List.mem_cons] at hy ⊢; rcases hy with h | h; exact .inl h; exact .inr (.inr h)
            have h6 := hom.nn y h5
            have h7 : y ≠ -1 := by omega
            rw [hss]
            simp [h4, h7]
          rw [huv, List.filter_append, List.filter_cons, if_pos (by rw [hP]; exact .inr (.inl rfl))]
          congr 1
          · exact List.filter_congr fun y hy => hc y (by simp [hy])
          · congr 1
            exact List.filter_congr fun y hy => hc y (by simp [hy])
        have e5 : u.filter (Seen now (keptL old now) j) ++ v.filter (Seen now (keptL old now) j) = (now.take (i + 1)).filter (· ∈ keptL old now) ++ now.drop (i + 1) := by
          rw [← h3, huv, List.filter_append, List.filter_cons, if_neg (by simp [hsj])]
        have e6 : List.filter (fun y => decide (y = -1) || Seen now (keptL old now) (j + 1) y) [(-1 : Int)] = [-1] := by simp
        rw [e4, e6, List.append_assoc, List.cons_append, mvT_out hne, ← List.append_assoc, e5] at key
        have e7 : (now.take (i + 1)).filter (· ∈ keptL old now) = (now.take i).filter (· ∈ keptL old now) := by
          rw [htk, List.filter_append]
          simp [hKN]
        rw [e7] at key
        have hnd := hn.nd
        rw [← List.take_append_drop i now, hdr] at hnd
        obtain ⟨n1, n2, n3⟩ := List.nodup_append.1 hnd
        obtain ⟨n4, n5⟩ := List.nodup_cons.1 n2
        rw [hdr]
        have hxT : now[i] ∉ (now.take i).filter (· ∈ keptL old now) := fun h => n3 _ (List.mem_filter.1 h).1 _ List.mem_cons_self rfl
        refine (List.append_left_inj [-1]).1 (key.symm.trans ?_)
        rcases hcase with ⟨hend, e⟩ | ⟨h, e⟩
        · have e8 : now.drop (i + 1) = [] := by rw [hend, List.drop_length]
          rw [e8, List.append_nil, e]
          have e9 : (-1 : Int) ∉ (now.take i).filter (· ∈ keptL old now) := fun h => by have := hn.nn _ (List.mem_of_mem_take (List.mem_filter.1 h).1); omega
          rw [mvT_at e9 (by simp) (by simpa using hxT) hx1]
          simp
        · have h8 := List.drop_eq_getElem_cons h
          rw [← e] at h8
          rw [h8] at n3 n4 n5 ⊢
          obtain ⟨n6, n7⟩ := List.nodup_cons.1 n5
          rw [List.append_assoc, List.cons_append]
          have haT : a ∉ (now.take i).filter (· ∈ keptL old now) := fun h => n3 _ (List.mem_filter.1 h).1 _ (List.mem_cons_of_mem _ List.mem_cons_self) rfl
          have ha1 : a ≠ -1 := by rw [e]; have := hn.nn _ (List.getElem_mem h); omega
          rw [mvT_at haT (by simp only [List.mem_append, List.mem_singleton, not_or]; exact ⟨n6, ha1⟩) (by
            simp only [List.mem_append, List.mem_singleton, not_or]
            simp only [List.mem_cons, not_or] at n4
            exact ⟨hxT, n4.2, hx1⟩) hne]
          simp
theorem moves_carry {old now : List Int} (ho : Ord old) (hn : Ord now) (hp : now.Perm old) : carL old (movesL old now) = (now, 0) := by
  obtain ⟨m, h1, h2, h3⟩ := moves_at ho hn hp now.length (Nat.le_refl _)
  unfold movesL
  rw [h1]
  rw [Nat.sub_self, List.take_zero, List.drop_zero] at h3
  have : m.filter (Seen now (keptL old now) now.length) = m := List.filter_eq_self.2 fun y hy => by
    unfold Seen
    rw [Nat.sub_self, List.drop_zero]
    simp [hp.mem_iff.2 (h2.mem_iff.1 hy)]
  rw [this] at h3
  rw [h3]
  rfl
theorem posL_self {l : List Int} (h : Ord l) : (posL l l).length = top (posL l l) := by
  have h1 := sub_top (List.Sublist.refl (posL l l)) (pos_up h.nd)
  have h2 := top_le (posL l l)
  omega
theorem moves_self {l : List Int} (h : Ord l) : movesL l l = [] := by
  have h1 := moves_len l l
  have h2 : (keptP l l).length = top (posL l l) := longR_len _
  have h3 := posL_self h
  rw [posL_len] at h3
  exact List.eq_nil_of_length_eq_zero (by omega)

/-! a ring of links -/
def Lnk (ls nx : Nat → Nat) : List Nat → Prop
  | a :: b :: r => nx a = b ∧ ls b = a ∧ Lnk ls nx (b :: r)
  | _ => True
theorem Lnk.app {ls nx : Nat → Nat} {X Z : List Nat} {a : Nat} : Lnk ls nx (X ++ a :: Z) ↔ Lnk ls nx (X ++ [a]) ∧ Lnk ls nx (a :: Z) := by
  induction X with
  | nil => simp [Lnk]
  | cons x X ih =>
    cases X with
    | nil =>
      simp only [List.cons_append, List.nil_append, Lnk, and_true]
      exact ⟨fun ⟨h1, h2, h3⟩ => ⟨⟨h1, h2⟩, h3⟩, fun ⟨⟨h1, h2⟩, h3⟩ => ⟨h1, h2, h3⟩⟩
    | cons y X =>
      simp only [List.cons_append, Lnk] at ih ⊢
      rw [ih]
      exact ⟨fun ⟨h1, h2, h3, h4⟩ => ⟨⟨h1, h2, h3⟩, h4⟩, fun ⟨⟨h1, h2, h3⟩, h4⟩ => ⟨h1, h2, h3, h4⟩⟩
theorem Lnk.same {ls nx ls' nx' : Nat → Nat} {L : List Nat} (h : Lnk ls nx L) (h1 : ∀ i ∈ L.dropLast, nx' i = nx i) (h2 : ∀ i ∈ L.tail, ls' i = ls i) : Lnk ls' nx' L := by
  induction L with
  | nil => trivial
  | cons a L ih =>
    cases L with
    | nil => trivial
    | cons b r =>
      obtain ⟨e1, e2, e3⟩ := h
      refine ⟨(h1 a (by simp [List.dropLast])).trans e1, (h2 b (by simp)).trans e2, ih e3 (fun i hi => h1 i (by simp [List.dropLast, hi])) fun i hi => h2 i (by simp only [List.tail_cons] at hi ⊢; simp [hi])⟩
def upd (f : Nat → Nat) (a b : Nat) : Nat → Nat := fun i => if i = a then b else f i
theorem upd_same (f : Nat → Nat) (a b : Nat) : upd f a b a = b := if_pos rfl
theorem upd_other (f : Nat → Nat) {a i : Nat} (b : Nat) (h : i ≠ a) : upd f a b i = f i := if_neg h
/-- the ring behind the end n -/
structure Ring (ls nx : Nat → Nat) (n : Nat) (c : List Nat) : Prop where
  link : Lnk ls nx (n :: (c ++ [n]))
  nd : c.Nodup
  lt : ∀ i ∈ c, i < n
theorem last_of (a : Nat) (L : List Nat) : ∃ X p, a :: L = X ++ [p] ∧ (p = a ∨ p ∈ L) := by
  rcases List.eq_nil_or_concat L with rfl | ⟨Y, p, rfl⟩
  · exact ⟨[], a, rfl, .inl rfl⟩
  · exact ⟨a :: Y, p, by simp, .inr (by simp)⟩
theorem first_of (L : List Nat) (n : Nat) : ∃ q Y, L ++ [n] = q :: Y ∧ (q = n ∨ q ∈ L) := by
  cases L with
  | nil => exact ⟨n, [], rfl, .inl rfl⟩
  | cons a L => exact ⟨a, L ++ [n], rfl, .inr (by simp)⟩
theorem cut_last {X : List Nat} {p a : Nat} {L : List Nat} (h : a :: L = X ++ [p]) : (X ++ [p]).dropLast = X ∧ (X ++ [p]).tail = L := by
  refine ⟨by simp, by rw [← h]; rfl⟩
/-- taken out -/
theorem Ring.out {ls nx : Nat → Nat} {n w : Nat} {u v : List Nat} (h : Ring ls nx n (u ++ w :: v)) :
    Ring (upd ls (nx w) (ls w)) (upd nx (ls w) (nx w)) n (u ++ v) ∧ ls w ≤ n ∧ nx w ≤ n := by
  obtain ⟨X, p, hX, hp⟩ := last_of n u
  obtain ⟨q, Y, hY, hq⟩ := first_of v n
  have hl := h.link
  have e0 : n :: ((u ++ w :: v) ++ [n]) = X ++ p :: w :: q :: Y := by
    have : n :: ((u ++ w :: v) ++ [n]) = (n :: u) ++ w :: (v ++ [n]) := by simp
    rw [this, hX, hY]; simp
  rw [e0] at hl
  obtain ⟨l1, l2⟩ := Lnk.app.1 hl
  obtain ⟨e1, e2, e3, e4, l3⟩ := l2
  have hnd := h.nd
  have hlt := h.lt
  have hnn : ∀ i, i ∈ u ∨ i ∈ v ∨ i = w → i ≠ n := fun i hi => by
    have := hlt i (by simp only [List.mem_append, List.mem_cons]; rcases hi with h | h | h; exact .inl h; exact .inr (.inr h); exact .inr (.inl h))
    omega
  obtain ⟨nu, nwv, nuv⟩ := List.nodup_append.1 hnd
  obtain ⟨nw, nv⟩ := List.nodup_cons.1 nwv
  -- the first part is without repetitions, so is the second
  have ndA : (n :: u).Nodup := List.nodup_cons.2 ⟨fun hm => hnn n (.inl hm) rfl, nu⟩
  have ndB : (v ++ [n]).Nodup := by
    rw [List.nodup_append]
    refine ⟨nv, by simp, fun a ha b hb e => ?_⟩
    simp at hb
    subst hb
    exact hnn a (.inr (.inl ha)) e
  have pX : p ∉ X := by
    rw [hX, List.nodup_append] at ndA
    exact fun hm => ndA.2.2 p hm p (by simp) rfl
  have qY : q ∉ Y := by
    rw [hY, List.nodup_cons] at ndB
    exact ndB.1
  have qu : q ∉ u := fun hm => by
    rcases hq with rfl | hq
    · exact hnn q (.inl hm) rfl
    · exact nuv q hm q (by simp [hq]) rfl
  have pv : p ∉ v := fun hm => by
    rcases hp with rfl | hp
    · exact hnn p (.inr (.inl hm)) rfl
    · exact nuv p hp p (by simp [hm]) rfl
  rw [e2, e3]
  refine ⟨⟨?_, hnd.sublist (List.Sublist.append_left (List.sublist_cons_self _ _) _), fun i hi => hlt i (by simp only [List.mem_append, List.mem_cons] at hi ⊢; rcases hi with h | h; exact .inl h; exact .inr (.inr h))⟩, ?_, ?_⟩
  · have e5 : n :: ((u ++ v) ++ [n]) = X ++ p :: q :: Y := by
      have : n :: ((u ++ v) ++ [n]) = (n :: u) ++ (v ++ [n]) := by simp
      rw [this, hX, hY]; simp
    rw [e5]
    refine Lnk.app.2 ⟨l1.same (fun i hi => ?_) (fun i hi => ?_), ⟨upd_same _ _ _, upd_same _ _ _, l3.same (fun i hi => ?_) (fun i hi => ?_)⟩⟩
    · rw [(cut_last hX).1] at hi
      exact upd_other _ _ fun e : i = p => pX (e ▸ hi)
    · rw [(cut_last hX).2] at hi
      exact upd_other _ _ fun e : i = q => qu (e ▸ hi)
    · rw [← hY] at hi
      have hi : i ∈ v := by simpa using hi
      exact upd_other _ _ fun e : i = p => pv (e ▸ hi)
    · exact upd_other _ _ fun e : i = q => qY (e ▸ hi)
  · rcases hp with rfl | hp
    · exact Nat.le_refl _
    · exact Nat.le_of_lt (hlt p (by simp [hp]))
  · rcases hq with rfl | hq
    · exact Nat.le_refl _
    · exact Nat.le_of_lt (hlt q (by simp [hq]))
/-- put in -/
theorem Ring.put {ls nx : Nat → Nat} {n w b : Nat} {d s t : List Nat} (h : Ring ls nx n d) (hw : w < n) (hwd : w ∉ d) (hd : d ++ [n] = s ++ b :: t) :
    ∃ c, c ++ [n] = s ++ w :: b :: t ∧ Ring (upd (upd ls w (ls b)) b w) (upd (upd nx (ls b) w) w b) n c ∧ ls b ≤ n := by
  obtain ⟨X, p, hX, hp⟩ := last_of n s
  have hl := h.link
  have hlt := h.lt
  have hnd := h.nd
  have e0 : n :: (d ++ [n]) = X ++ p :: b :: t := by
    have : n :: (d ++ [n]) = (n :: s) ++ (b :: t) := by rw [hd]; rfl
    rw [this, hX]; simp
  rw [e0] at hl
  obtain ⟨l1, e1, e2, l3⟩ := Lnk.app.1 hl
  have ndD : (d ++ [n]).Nodup := by
    rw [List.nodup_append]
    refine ⟨hnd, by simp, fun a ha b hb e => ?_⟩
    simp at hb
    subst hb
    have := hlt a ha
    omega
  have ndE : (n :: d).Nodup := List.nodup_cons.2 ⟨fun hm => by have := hlt n hm; omega, hnd⟩
  have wall : ∀ i ∈ s ++ b :: t, i ≠ w := fun i hi e => by
    rw [← hd] at hi
    subst e
    simp only [List.mem_append, List.mem_singleton] at hi
    rcases hi with h | h
    · exact hwd h
    · omega
  have wn : ∀ i ∈ n :: s, i ≠ w := fun i hi e => by
    rcases List.mem_cons.1 hi with h | h
    · omega
    · exact wall i (by simp [h]) e
  have pw : p ≠ w := wn p (by rw [hX]; simp)
  have bw : b ≠ w := wall b (by simp)
  rw [hd] at ndD
  obtain ⟨ns, nbt, nst⟩ := List.nodup_append.1 ndD
  obtain ⟨nb, nt⟩ := List.nodup_cons.1 nbt
  have nsn : (n :: s).Nodup := by
    have hsub : s.Sublist d := by
      -- s is a part of d, for the last one of d ++ [n] is behind it
      have h4 : (s ++ b :: t).dropLast = d := by rw [← hd]; simp
      rw [← h4, List.dropLast_append_of_ne_nil (by simp)]
      exact List.sublist_append_left _ _
    exact ndE.sublist (List.cons_sublist_cons.2 hsub)
  have pX : p ∉ X := by
    rw [hX, List.nodup_append] at nsn
    exact fun hm => nsn.2.2 p hm p (by simp) rfl
  have hdl : d = s ++ (b :: t).dropLast := by
    have h4 : (s ++ b :: t).dropLast = d := by rw [← hd]; simp
    rw [← h4, List.dropLast_append_of_ne_nil (by simp)]
  have pbt : ∀ i ∈ (b :: t).dropLast, i ≠ p := fun i hi e => by
    subst e
    rcases hp with rfl | hp
    · exact (List.nodup_cons.1 ndE).1 (by rw [hdl]; simp [hi])
    · exact nst i hp i (List.dropLast_subset _ hi) rfl
  rw [e2]
  have hne : b :: t ≠ [] := by simp
  have hlast : (b :: t).dropLast ++ [n] = b :: t := by
    have h5 : d ++ [n] = s ++ ((b :: t).dropLast ++ [n]) := by rw [← List.append_assoc, ← hdl]
    rw [hd] at h5
    exact (List.append_cancel_left h5).symm
  refine ⟨s ++ w :: (b :: t).dropLast, by rw [List.append_assoc, List.cons_append, hlast], ⟨?_, ?_, ?_⟩, ?_⟩
  · have e5 : n :: ((s ++ w :: (b :: t).dropLast) ++ [n]) = X ++ p :: w :: b :: t := by
      have : n :: ((s ++ w :: (b :: t).dropLast) ++ [n]) = (n :: s) ++ w :: ((b :: t).dropLast ++ [n]) := by simp
      rw [this, hX, hlast]; simp
    rw [e5]
    refine Lnk.app.2 ⟨l1.same (fun i hi => ?_) (fun i hi => ?_), ?_, ?_, ?_, ?_, l3.same (fun i hi => ?_) (fun i hi => ?_)⟩
    · rw [(cut_last hX).1] at hi
      rw [upd_other _ _ (wn i (by rw [hX]; simp [hi])), upd_other _ _ fun e : i = p => pX (e ▸ hi)]
    · rw [(cut_last hX).2] at hi
      rw [upd_other _ _ (fun e => nst i hi b (by simp) e), upd_other _ _ (wall i (by simp [hi]))]
    · rw [upd_other _ _ pw, upd_same]
    · rw [upd_other _ _ bw.symm, upd_same]
    · exact upd_same _ _ _
    · exact upd_same _ _ _
    · rw [upd_other _ _ (wall i (by
        have := List.dropLast_subset _ hi
        simp only [List.mem_append]
        exact .inr this)), upd_other _ _ (pbt i hi)]
    · have hi : i ∈ t := hi
      rw [upd_other _ _ (fun e : i = b => nb (e ▸ hi)), upd_other _ _ (wall i (by simp [hi]))]
  · refine List.perm_middle.nodup_iff.2 (List.nodup_cons.2 ⟨?_, by rw [← hdl]; exact hnd⟩)
    rw [← hdl]
    exact hwd
  · intro i hi
    simp only [List.mem_append, List.mem_cons] at hi
    rcases hi with h | h | h
    · exact hlt i (by rw [hdl]; simp [h])
    · omega
    · exact hlt i (by rw [hdl]; simp [h])
  · rcases hp with rfl | hp
    · exact Nat.le_refl _
    · exact Nat.le_of_lt (hlt p (by rw [hdl]; simp [hp]))
/-- the two together: what move does -/
theorem Ring.move {ls nx : Nat → Nat} {n w b : Nat} {c : List Nat} (h : Ring ls nx n c) (hw : w ∈ c) (hb : b ∈ c ++ [n]) (hne : w ≠ b) :
    ls w ≤ n ∧ nx w ≤ n ∧ upd ls (nx w) (ls w) b ≤ n ∧ ∃ c', c' ++ [n] = mvT w b (c ++ [n]) ∧
      Ring (upd (upd (upd ls (nx w) (ls w)) w (upd ls (nx w) (ls w) b)) b w) (upd (upd (upd nx (ls w) (nx w)) (upd ls (nx w) (ls w) b) w) w b) n c' := by
  obtain ⟨u, v, rfl⟩ := List.append_of_mem hw
  obtain ⟨h1, h2, h3⟩ := h.out
  have hwn := h.lt w hw
  have hwd : w ∉ u ++ v := (List.nodup_cons.1 (List.perm_middle.nodup_iff.1 h.nd)).1
  have hb2 : b ∈ (u ++ v) ++ [n] := by
    simp only [List.mem_append, List.mem_cons] at hb ⊢
    rcases hb with (h | h | h) | h
    · exact .inl (.inl h)
    · exact absurd h.symm hne
    · exact .inl (.inr h)
    · exact .inr h
  obtain ⟨s, t, hst⟩ := List.append_of_mem hb2
  obtain ⟨c', h4, h5, h6⟩ := h1.put hwn hwd hst
  refine ⟨h2, h3, h6, c', ?_, h5⟩
  have e1 : u ++ w :: v ++ [n] = u ++ w :: (v ++ [n]) := by simp
  have hnd : (u ++ v ++ [n]).Nodup := by
    rw [List.nodup_append]
    refine ⟨h1.nd, by simp, fun a ha b hb e => ?_⟩
    simp at hb
    subst hb
    have := h1.lt a ha
    omega
  rw [e1, mvT_out hne, ← List.append_assoc, hst, h4]
  rw [hst] at hnd
  have hn3 := List.nodup_cons.1 (List.perm_middle.nodup_iff.1 hnd)
  simp only [List.mem_append, not_or] at hn3
  refine (mvT_at hn3.1.1 hn3.1.2 (fun hm => ?_) hne).symm
  have hm2 : w ∈ s ++ b :: t := by simp only [List.mem_append, List.mem_cons] at hm ⊢; rcases hm with h | h; exact .inl h; exact .inr (.inr h)
  rw [← hst] at hm2
  simp only [List.mem_append, List.mem_singleton] at hm2
  rcases hm2 with hm2 | hm2
  · exact hwd (by simpa using hm2)
  · omega
/-- the ring at the start -/
theorem ring_start (n : Nat) : Ring (fun i => (i + n) % (n + 1)) (fun i => (i + 1) % (n + 1)) n (List.range n) := by
  refine ⟨?_, List.nodup_range, fun i hi => List.mem_range.1 hi⟩
  have key : ∀ (k i : Nat), i + k = n + 1 → 0 < k → Lnk (fun i => (i + n) % (n + 1)) (fun i => (i + 1) % (n + 1)) (List.range' i k) := by
    intro k
    induction k with
    | zero => intro i _ h; omega
    | succ k ih =>
      intro i hk _
      cases k with
      | zero => trivial
      | succ k =>
        refine ⟨Nat.mod_eq_of_lt (by omega), ?_, ih (i + 1) (by omega) (by omega)⟩
        show (i + 1 + n) % (n + 1) = i
        rw [show i + 1 + n = i + (n + 1) by omega, Nat.add_mod_right, Nat.mod_eq_of_lt (by omega)]
  have e : List.range n ++ [n] = List.range' 0 (n + 1) := by
    rw [← List.range_succ, List.range_eq_range']
  rw [e, List.range'_succ]
  refine ⟨?_, ?_, ?_⟩
  · show (n + 1) % (n + 1) = 0
    exact Nat.mod_self _
  · show (0 + n) % (n + 1) = n
    rw [Nat.zero_add]; exact Nat.mod_eq_of_lt (by omega)
  · have := key (n + 1) 0 (by omega) (by omega)
    rw [List.range'_succ] at this
    exact this
end Go.Proofs.Ytejgcpohdbiaoaa
