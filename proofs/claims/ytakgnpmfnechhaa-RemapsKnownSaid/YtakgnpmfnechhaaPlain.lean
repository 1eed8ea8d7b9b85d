/- Plain mathematics: maps of the indices of a list. No program. -/
namespace Go.Proofs.Ytakgnpmfnechhaa

def I64 (x : Int) : Prop := -9223372036854775808 ≤ x ∧ x ≤ 9223372036854775807

/-! ### checks -/
def chkW (o : Int) : List Int → List Int → Int
  | _, [] => 0
  | p, x :: r => if x < -1 ∨ o ≤ x then 4 else if 0 ≤ x ∧ x ∈ p then 8 else chkW o (p ++ [x]) r
def chkM (o : Int) (l : List Int) : Int := if o < 0 then 1 else if 4096 < o ∨ 4096 < l.length then 3 else chkW o [] l
/-- two indices now that are not one index before -/
def Two (x y : Int) : Prop := x = -1 ∨ x ≠ y
structure Vm (o : Int) (l : List Int) : Prop where
  o0 : 0 ≤ o
  o1 : o ≤ 4096
  len : l.length ≤ 4096
  rng : ∀ x ∈ l, -1 ≤ x ∧ x < o
  one : l.Pairwise Two
theorem Two.symm {x y : Int} (h : Two x y) : Two y x := by
  unfold Two at *
  omega
theorem chkW_zero {o : Int} {p l : List Int} : chkW o p l = 0 ↔ (∀ x ∈ l, (-1 ≤ x ∧ x < o) ∧ (x = -1 ∨ x ∉ p)) ∧ l.Pairwise Two := by
  induction l generalizing p with
  | nil => simp [chkW]
  | cons x r ih =>
    simp only [chkW]
    split
    · rename_i h
      constructor
      · intro h2; omega
      · intro h2; have := (h2.1 x (by simp)).1; omega
    · rename_i h
      split
      · rename_i h1
        constructor
        · intro h2; omega
        · intro h2
          rcases (h2.1 x (by simp)).2 with h3 | h3
          · omega
          · exact absurd h1.2 h3
      · rename_i h1
        rw [ih, List.pairwise_cons]
        constructor
        · rintro ⟨h2, h3⟩
          refine ⟨fun y hy => ?_, fun y hy => ?_, h3⟩
          · rcases List.mem_cons.1 hy with rfl | hy
            · refine ⟨by omega, ?_⟩
              by_cases h4 : y = -1
              · exact .inl h4
              · exact .inr fun h5 => h1 ⟨by omega, h5⟩
            · obtain ⟨h4, h5⟩ := h2 y hy
              simp only [List.mem_append, List.mem_singleton, not_or] at h5
              exact ⟨h4, h5.imp id (·.1)⟩
          · have h5 := (h2 y hy).2
            simp only [List.mem_append, List.mem_singleton, not_or] at h5
            unfold Two
            by_cases h6 : x = y
            · rcases h5 with h5 | h5
              · omega
              · exact absurd h6.symm h5.2
            · exact .inr h6
        · rintro ⟨h2, h3, h4⟩
          refine ⟨fun y hy => ?_, h4⟩
          obtain ⟨h5, h6⟩ := h2 y (by simp [hy])
          refine ⟨h5, ?_⟩
          simp only [List.mem_append, List.mem_singleton, not_or]
          rcases h6 with h6 | h6
          · exact .inl h6
          · have := h3 y hy
            unfold Two at this
            by_cases h7 : y = -1
            · exact .inl h7
            · exact .inr ⟨h6, by omega⟩
theorem chkM_zero {o : Int} {l : List Int} : chkM o l = 0 ↔ Vm o l := by
  unfold chkM
  split
  · rename_i h
    exact ⟨fun h2 => by omega, fun h2 => by have := h2.o0; omega⟩
  · split
    · rename_i h1 h
      exact ⟨fun h2 => by omega, fun h2 => by have := h2.o1; have := h2.len; omega⟩
    · rename_i h1 h
      rw [chkW_zero]
      exact ⟨fun h2 => ⟨by omega, by omega, by omega, fun x hx => (h2.1 x hx).1, h2.2⟩, fun h2 => ⟨fun x hx => ⟨h2.rng x hx, .inr (by simp)⟩, h2.one⟩⟩
theorem chkW_step {o : Int} {l : List Int} {i : Nat} (h : i < l.length) : chkW o (l.take i) (l.drop i) = if l[i] < -1 ∨ o ≤ l[i] then 4 else if 0 ≤ l[i] ∧ l[i] ∈ l.take i then 8 else chkW o (l.take (i + 1)) (l.drop (i + 1)) := by
  rw [List.drop_eq_getElem_cons h, List.take_succ_eq_append_getElem h]
  rfl
theorem Vm.perm {o : Int} {l m : List Int} (h : Vm o l) (hp : m.Perm l) : Vm o m :=
  ⟨h.o0, h.o1, by rw [hp.length_eq]; exact h.len, fun x hx => h.rng x (hp.mem_iff.1 hx), (hp.pairwise_iff (fun h => Two.symm h)).2 h.one⟩
theorem Vm.sub {o : Int} {l m : List Int} (h : Vm o l) (hp : m.Sublist l) : Vm o m :=
  ⟨h.o0, h.o1, Nat.le_trans hp.length_le h.len, fun x hx => h.rng x (hp.subset hx), h.one.sublist hp⟩
theorem Vm.news {o : Int} {l : List Int} (h : Vm o l) (n : Nat) (hn : l.length + n ≤ 4096) : Vm o (List.replicate n (-1) ++ l) := by
  have ho := h.o0
  refine ⟨h.o0, h.o1, by rw [List.length_append, List.length_replicate]; omega, fun x hx => ?_, ?_⟩
  · rcases List.mem_append.1 hx with hx | hx
    · have := List.eq_of_mem_replicate hx; omega
    · exact h.rng x hx
  · rw [List.pairwise_append]
    refine ⟨?_, h.one, fun x hx y hy => .inl (List.eq_of_mem_replicate hx)⟩
    rw [List.pairwise_iff_getElem]
    intro i j hi hj hij
    exact .inl (by simp)

/-! ### positions -/
def atL (l : List Int) (x : Int) : Int := if x ∈ l then (l.idxOf x : Int) else -1
theorem atL_none {l : List Int} {x : Int} (h : x ∉ l) : atL l x = -1 := by unfold atL; rw [if_neg h]
theorem atL_mem {l : List Int} {x : Int} (h : x ∈ l) : atL l x = (l.idxOf x : Int) := by unfold atL; rw [if_pos h]
theorem atL_neg {l : List Int} {x : Int} : atL l x < 0 ↔ x ∉ l := by
  unfold atL
  split
  · rename_i h; exact ⟨fun h2 => by omega, fun h2 => absurd h h2⟩
  · rename_i h; exact ⟨fun _ => h, fun _ => by omega⟩
theorem atL_lt {l : List Int} {x : Int} : -1 ≤ atL l x ∧ atL l x < l.length := by
  unfold atL
  split
  · rename_i h; have := List.idxOf_lt_length_iff.2 h; omega
  · omega
theorem atL_inv {l : List Int} {x : Int} {i : Nat} (h : atL l x = i) : ∃ hi : i < l.length, l[i] = x := by
  by_cases hx : x ∈ l
  · rw [atL_mem hx] at h
    have h1 := List.idxOf_lt_length_iff.2 hx
    have e : l.idxOf x = i := by omega
    subst e
    exact ⟨h1, List.getElem_idxOf h1⟩
  · rw [atL_none hx] at h; omega
theorem atL_eq {l : List Int} {x : Int} {i : Nat} (hi : i < l.length) (hx : l[i] = x) (hb : ∀ j (h : j < l.length), j < i → l[j] ≠ x) : atL l x = i := by
  have hm : x ∈ l := hx ▸ List.getElem_mem hi
  rw [atL_mem hm]
  have h1 := List.idxOf_lt_length_iff.2 hm
  have h2 : l[l.idxOf x] = x := List.getElem_idxOf h1
  have h3 : ¬ l.idxOf x < i := fun h => hb _ h1 h h2
  have h4 : ¬ i < l.idxOf x := fun h => by
    have := List.not_of_lt_findIdx (p := (· == x)) (xs := l) (i := i) h
    simp [hx] at this
  omega
theorem atL_get {l : List Int} (hn : l.Pairwise Two) {i : Nat} (h : i < l.length) (h1 : l[i] ≠ -1) : atL l l[i] = i := by
  refine atL_eq h rfl fun j hj hji e => ?_
  rcases List.pairwise_iff_getElem.1 hn j i hj h hji with h2 | h2
  · exact h1 (e ▸ h2)
  · exact h2 e

/-! ### lists that a closure makes -/
def mk (n : Nat) (f : Nat → Int) : List Int := (List.range n).map f
theorem mk_len (n : Nat) (f : Nat → Int) : (mk n f).length = n := by simp [mk]
theorem mk_get {n : Nat} {f : Nat → Int} {i : Nat} (h : i < (mk n f).length) : (mk n f)[i] = f i := by simp [mk]
theorem mk_zero (f : Nat → Int) : mk 0 f = [] := rfl
theorem mk_succ (n : Nat) (f : Nat → Int) : mk (n + 1) f = mk n f ++ [f n] := by simp [mk, List.range_succ]
theorem mk_ext {l : List Int} {n : Nat} {f : Nat → Int} (hl : l.length = n) (h : ∀ i (hi : i < l.length), l[i] = f i) : mk n f = l := by
  refine List.ext_getElem (by rw [mk_len, hl]) fun i h1 h2 => ?_
  rw [mk_get, h i h2]
theorem mk_congr {n : Nat} {f g : Nat → Int} (h : ∀ i, i < n → f i = g i) : mk n f = mk n g :=
  List.map_congr_left fun i hi => h i (List.mem_range.1 hi)
def idL (n : Nat) : List Int := mk n fun i => i
theorem idL_len (n : Nat) : (idL n).length = n := mk_len _ _
theorem idL_get {n i : Nat} (h : i < (idL n).length) : (idL n)[i] = (i : Int) := mk_get h
theorem idL_vm {n : Nat} (h : n ≤ 4096) : Vm n (idL n) := by
  refine ⟨by omega, by omega, by rw [idL_len]; exact h, fun x hx => ?_, ?_⟩
  · obtain ⟨i, hi, rfl⟩ := List.getElem_of_mem hx
    rw [idL_get]
    rw [idL_len] at hi
    omega
  · rw [List.pairwise_iff_getElem]
    intro i j hi hj hij
    rw [idL_get, idL_get]
    exact .inr (by omega)

/-! ### changes -/
def insL (l : List Int) (a m : Nat) : List Int := l.take a ++ (List.replicate m (-1) ++ l.drop a)
def remL (l : List Int) (a m : Nat) : List Int := l.take a ++ l.drop (a + m)
def movL (l : List Int) (a m t : Nat) : List Int := (remL l a m).take t ++ ((l.drop a).take m ++ (remL l a m).drop t)
theorem insL_len {l : List Int} {a m : Nat} (h : a ≤ l.length) : (insL l a m).length = l.length + m := by
  simp only [insL, List.length_append, List.length_take, List.length_replicate, List.length_drop]; omega
theorem remL_len {l : List Int} {a m : Nat} (h : a + m ≤ l.length) : (remL l a m).length = l.length - m := by
  simp only [remL, List.length_append, List.length_take, List.length_drop]; omega
theorem movL_perm {l : List Int} {a m t : Nat} : (movL l a m t).Perm ((l.drop a).take m ++ remL l a m) := by
  unfold movL
  generalize remL l a m = r
  have h : ((l.drop a).take m ++ (r.take t ++ r.drop t)).Perm (r.take t ++ ((l.drop a).take m ++ r.drop t)) := by
    rw [← List.append_assoc, ← List.append_assoc]
    exact List.Perm.append_right _ List.perm_append_comm
  rw [List.take_append_drop] at h
  exact h.symm
theorem part_perm {l : List Int} {a m : Nat} : ((l.drop a).take m ++ remL l a m).Perm l := by
  unfold remL
  have h : ((l.drop a).take m ++ (l.take a ++ l.drop (a + m))).Perm (l.take a ++ ((l.drop a).take m ++ l.drop (a + m))) := by
    rw [← List.append_assoc, ← List.append_assoc]
    exact List.Perm.append_right _ List.perm_append_comm
  rw [← List.drop_drop, List.take_append_drop, List.take_append_drop] at h
  rw [← List.drop_drop]
  exact h
theorem movL_all {l : List Int} {a m t : Nat} : (movL l a m t).Perm l := movL_perm.trans part_perm
theorem movL_len {l : List Int} {a m t : Nat} : (movL l a m t).length = l.length := movL_all.length_eq
theorem insL_perm {l : List Int} {a m : Nat} : (insL l a m).Perm (List.replicate m (-1) ++ l) := by
  unfold insL
  have h : (List.replicate m (-1) ++ (l.take a ++ l.drop a)).Perm (l.take a ++ (List.replicate m (-1) ++ l.drop a)) := by
    rw [← List.append_assoc, ← List.append_assoc]
    exact List.Perm.append_right _ List.perm_append_comm
  rw [List.take_append_drop] at h
  exact h.symm
theorem remL_sub {l : List Int} {a m : Nat} : (remL l a m).Sublist l := by
  unfold remL
  have h : (l.take a ++ l.drop (a + m)).Sublist (l.take a ++ l.drop a) := by
    refine List.Sublist.append (List.Sublist.refl _) ?_
    rw [← List.drop_drop]
    exact List.drop_sublist _ _
  rwa [List.take_append_drop] at h
theorem Vm.ins {o : Int} {l : List Int} {a m : Nat} (h : Vm o l) (hm : l.length + m ≤ 4096) : Vm o (insL l a m) := (h.news m hm).perm insL_perm
theorem Vm.rem {o : Int} {l : List Int} {a m : Nat} (h : Vm o l) : Vm o (remL l a m) := h.sub remL_sub
theorem Vm.mov {o : Int} {l : List Int} {a m t : Nat} (h : Vm o l) : Vm o (movL l a m t) := h.perm movL_all
theorem insL_map {l : List Int} {a m : Nat} {f : Int → Int} (h : f (-1) = -1) : (insL l a m).map f = insL (l.map f) a m := by
  simp [insL, List.map_take, List.map_drop, h]
theorem remL_map {l : List Int} {a m : Nat} {f : Int → Int} : (remL l a m).map f = remL (l.map f) a m := by
  simp [remL, List.map_take, List.map_drop]
theorem movL_map {l : List Int} {a m t : Nat} {f : Int → Int} : (movL l a m t).map f = movL (l.map f) a m t := by
  simp [movL, List.map_take, List.map_drop, remL_map]

/-! what the closures tell -/
def insF (a m : Nat) (i : Nat) : Int := if i < a then i else if i < a + m then -1 else (i : Int) - m
def othF (a m : Nat) (i : Nat) : Int := if i < a then i else (i : Int) + m
def movF (a m t : Nat) (i : Nat) : Int := if i < t then othF a m i else if i < t + m then (a : Int) + i - t else othF a m (i - m)
theorem ins_made {n a m : Nat} (h : a ≤ n) : mk (n + m) (insF a m) = insL (idL n) a m := by
  refine mk_ext (by rw [insL_len (by rw [idL_len]; exact h), idL_len]) fun i hi => ?_
  rw [insL_len (by rw [idL_len]; exact h), idL_len] at hi
  unfold insF
  simp only [insL, List.getElem_append, List.length_take, idL_len, List.length_replicate, List.getElem_take, List.getElem_drop, idL_get, List.getElem_replicate]
  split
  · rw [if_pos (by omega)]
  · rw [if_neg (by omega)]
    split
    · rw [if_pos (by omega)]
    · rw [if_neg (by omega)]; omega
theorem rem_made {n a m : Nat} (h : a + m ≤ n) : mk (n - m) (othF a m) = remL (idL n) a m := by
  refine mk_ext (by rw [remL_len (by rw [idL_len]; exact h), idL_len]) fun i hi => ?_
  rw [remL_len (by rw [idL_len]; exact h), idL_len] at hi
  unfold othF
  simp only [remL, List.getElem_append, List.length_take, idL_len, List.getElem_take, List.getElem_drop, idL_get]
  split
  · rw [if_pos (by omega)]
  · rw [if_neg (by omega)]; omega
theorem mov_made {n a m t : Nat} (h : a + m ≤ n) (ht : t ≤ n - m) : mk n (movF a m t) = movL (idL n) a m t := by
  have hr : (remL (idL n) a m).length = n - m := by rw [remL_len (by rw [idL_len]; exact h), idL_len]
  have hg : ∀ i (hi : i < (remL (idL n) a m).length), (remL (idL n) a m)[i] = othF a m i := fun i hi => by
    have := rem_made h
    simp only [← this, mk_get]
  refine mk_ext (by rw [movL_len, idL_len]) fun i hi => ?_
  rw [movL_len, idL_len] at hi
  unfold movF
  simp only [movL, List.getElem_append, List.length_take, List.length_drop, idL_len, List.getElem_take, List.getElem_drop, idL_get, hr, hg]
  split
  · rw [if_pos (by omega)]
  · rw [if_neg (by omega)]
    split
    · rw [if_pos (by omega)]; omega
    · rw [if_neg (by omega)]
      congr 1
      omega

/-! ### the map of two -/
def g (a : List Int) (x : Int) : Int := if x = -1 then -1 else a.getD x.toNat (-1)
def cmpL (a b : List Int) : List Int := b.map (g a)
theorem g_none (a : List Int) : g a (-1) = -1 := rfl
theorem g_at {a : List Int} {i : Nat} (h : i < a.length) : g a (i : Int) = a[i] := by
  unfold g
  rw [if_neg (by omega), Int.toNat_natCast, List.getD_eq_getElem?_getD, List.getElem?_eq_getElem h]
  rfl
theorem cmpL_len (a b : List Int) : (cmpL a b).length = b.length := by simp [cmpL]
theorem cmp_made (a b : List Int) : mk b.length (fun i => g a (b.getD i 0)) = cmpL a b := by
  refine mk_ext (cmpL_len a b) fun i hi => ?_
  rw [cmpL_len] at hi
  simp [cmpL, List.getElem?_eq_getElem hi]
theorem map_g {a : List Int} : (idL a.length).map (g a) = a := by
  refine List.ext_getElem (by rw [List.length_map, idL_len]) fun i h1 h2 => ?_
  rw [List.getElem_map, idL_get, g_at h2]
theorem g_mem {a : List Int} {x : Int} (h : x < a.length) (h0 : -1 ≤ x) : g a x = -1 ∨ g a x ∈ a := by
  rcases Int.lt_or_le x 0 with h1 | h1
  · obtain rfl : x = -1 := by omega
    exact .inl rfl
  · obtain ⟨i, rfl⟩ : ∃ i : Nat, x = i := ⟨x.toNat, by omega⟩
    rw [g_at (by omega)]
    exact .inr (List.getElem_mem _)
theorem g_id {n : Nat} {x : Int} (h : x < n) (h0 : -1 ≤ x) : g (idL n) x = x := by
  rcases Int.lt_or_le x 0 with h1 | h1
  · obtain rfl : x = -1 := by omega
    rfl
  · obtain ⟨i, rfl⟩ : ∃ i : Nat, x = i := ⟨x.toNat, by omega⟩
    rw [g_at (by rw [idL_len]; omega), idL_get]
theorem cmp_id {n : Nat} {b : List Int} (h : ∀ x ∈ b, -1 ≤ x ∧ x < n) : cmpL (idL n) b = b := by
  unfold cmpL
  conv => rhs; rw [← List.map_id b]
  exact List.map_congr_left fun x hx => g_id (h x hx).2 (h x hx).1
theorem id_cmp (a : List Int) : cmpL a (idL a.length) = a := map_g
theorem cmp_vm {o : Int} {a b : List Int} (ha : Vm o a) (hb : Vm a.length b) : Vm o (cmpL a b) := by
  have ho := ha.o0
  refine ⟨ha.o0, ha.o1, by rw [cmpL_len]; exact hb.len, fun y hy => ?_, ?_⟩
  · obtain ⟨x, hx, rfl⟩ := List.mem_map.1 hy
    obtain ⟨h0, h1⟩ := hb.rng x hx
    rcases g_mem h1 h0 with h | h
    · rw [h]; omega
    · exact ha.rng _ h
  · have h2 := hb.one
    unfold cmpL
    rw [List.pairwise_iff_getElem] at h2 ⊢
    intro i j hi hj hij
    rw [List.length_map] at hi hj
    rw [List.getElem_map, List.getElem_map]
    obtain ⟨p0, p1⟩ := hb.rng _ (List.getElem_mem hi)
    obtain ⟨q0, q1⟩ := hb.rng _ (List.getElem_mem hj)
    have h3 := h2 i j hi hj hij
    generalize b[i] = x at *
    generalize b[j] = y at *
    rcases Int.lt_or_le x 0 with k | k
    · obtain rfl : x = -1 := by omega
      exact .inl rfl
    · rcases Int.lt_or_le y 0 with k2 | k2
      · obtain rfl : y = -1 := by omega
        rw [g_none]
        unfold Two
        omega
      · obtain ⟨x, rfl⟩ : ∃ i : Nat, x = i := ⟨x.toNat, by omega⟩
        obtain ⟨y, rfl⟩ : ∃ i : Nat, y = i := ⟨y.toNat, by omega⟩
        rw [g_at (by omega), g_at (by omega)]
        have hxy : x ≠ y := by
          unfold Two at h3
          omega
        have h5 := ha.one
        rw [List.pairwise_iff_getElem] at h5
        rcases Nat.lt_or_ge x y with k3 | k3
        · exact h5 _ _ _ _ k3
        · exact (h5 _ _ _ _ (by omega)).symm
theorem cmp_assoc {a b c : List Int} (hc : ∀ x ∈ c, -1 ≤ x ∧ x < b.length) : cmpL (cmpL a b) c = cmpL a (cmpL b c) := by
  unfold cmpL
  rw [List.map_map]
  refine List.map_congr_left fun x hx => ?_
  obtain ⟨h0, h1⟩ := hc x hx
  rcases Int.lt_or_le x 0 with k | k
  · obtain rfl : x = -1 := by omega
    rfl
  · obtain ⟨i, rfl⟩ : ∃ i : Nat, x = i := ⟨x.toNat, by omega⟩
    rw [g_at (by rw [List.length_map]; omega), List.getElem_map]
    simp only [Function.comp]
    rw [g_at (a := b) (by omega)]

/-! ### steps -/
structure St where
  k : Nat
  a : Nat
  m : Nat
  t : Nat
def manyN (l : List Int) (s : St) : Nat := if s.k % 3 = 0 then s.m % 6 else min (s.m % 6) (l.length - s.a % (l.length + 1))
def toN (l : List Int) (s : St) : Nat := s.t % (l.length - min (manyN l s) l.length + 1)
def stepL (l : List Int) (s : St) : List Int :=
  if s.k % 3 = 0 then insL l (s.a % (l.length + 1)) (manyN l s)
  else if s.k % 3 = 1 then remL l (s.a % (l.length + 1)) (manyN l s)
  else movL l (s.a % (l.length + 1)) (manyN l s) (toN l s)
def aftL (l : List Int) : List St → List Int
  | [] => l
  | s :: r => aftL (stepL l s) r
/-- what the steps do: the first twelve -/
def aft (l : List Int) (ss : List St) : List Int := aftL l (ss.take 12)
theorem many_le {l : List Int} {s : St} (h : ¬ s.k % 3 = 0) : s.a % (l.length + 1) + manyN l s ≤ l.length := by
  have := Nat.mod_lt s.a (show 0 < l.length + 1 by omega)
  unfold manyN
  rw [if_neg h]
  omega
theorem many_5 {l : List Int} {s : St} : manyN l s ≤ 5 := by
  have := Nat.mod_lt s.m (show 0 < 6 by omega)
  unfold manyN
  split <;> omega
theorem stepL_len {l : List Int} {s : St} : (stepL l s).length ≤ l.length + 5 := by
  have h1 := Nat.mod_lt s.a (show 0 < l.length + 1 by omega)
  have h2 := @many_5 l s
  unfold stepL
  split
  · rw [insL_len (by omega)]; omega
  · rename_i h
    have := many_le (l := l) h
    split
    · rw [remL_len (by omega)]; omega
    · rw [movL_len]; omega
theorem aftL_len {l : List Int} {ss : List St} : (aftL l ss).length ≤ l.length + 5 * ss.length := by
  induction ss generalizing l with
  | nil => simp [aftL]
  | cons s r ih =>
    have := @ih (stepL l s)
    have := @stepL_len l s
    simp only [aftL, List.length_cons]
    omega
theorem aft_len {l : List Int} {ss : List St} : (aft l ss).length ≤ l.length + 60 := by
  have := @aftL_len l (ss.take 12)
  have h2 : (ss.take 12).length ≤ 12 := List.length_take_le _ _
  unfold aft
  omega
theorem stepL_vm {o : Int} {l : List Int} {s : St} (h : Vm o l) (hl : l.length + 5 ≤ 4096) : Vm o (stepL l s) := by
  have h2 := @many_5 l s
  unfold stepL
  split
  · exact h.ins (by omega)
  · split
    · exact h.rem
    · exact h.mov
theorem aftL_vm {o : Int} {l : List Int} {ss : List St} (h : Vm o l) (hl : l.length + 5 * ss.length ≤ 4096) : Vm o (aftL l ss) := by
  induction ss generalizing l with
  | nil => exact h
  | cons s r ih =>
    have := @stepL_len l s
    simp only [List.length_cons] at hl
    exact ih (stepL_vm h (by omega)) (by omega)
theorem aft_vm {o : Int} {l : List Int} {ss : List St} (h : Vm o l) (hl : l.length + 60 ≤ 4096) : Vm o (aft l ss) := by
  have h2 : (ss.take 12).length ≤ 12 := List.length_take_le _ _
  exact aftL_vm h (by omega)
theorem many_map {l : List Int} {s : St} {f : Int → Int} : manyN (l.map f) s = manyN l s := by unfold manyN; rw [List.length_map]
theorem stepL_map {l : List Int} {s : St} {f : Int → Int} (h : f (-1) = -1) : (stepL l s).map f = stepL (l.map f) s := by
  unfold stepL toN
  rw [many_map, List.length_map]
  split
  · exact insL_map h
  · split
    · exact remL_map
    · exact movL_map
theorem aftL_map {l : List Int} {ss : List St} {f : Int → Int} (h : f (-1) = -1) : (aftL l ss).map f = aftL (l.map f) ss := by
  induction ss generalizing l with
  | nil => rfl
  | cons s r ih =>
    simp only [aftL]
    rw [ih, stepL_map h]
theorem aft_map {l : List Int} {ss : List St} {f : Int → Int} (h : f (-1) = -1) : (aft l ss).map f = aft (l.map f) ss := aftL_map h
/-- the map of steps, behind another one, is what the steps make of it -/
theorem cmp_aft {a : List Int} {ss : List St} : cmpL a (aft (idL a.length) ss) = aft a ss := by
  unfold cmpL
  rw [aft_map (g_none a), map_g]
theorem aftL_snoc {l : List Int} {ss : List St} {s : St} : aftL l (ss ++ [s]) = stepL (aftL l ss) s := by
  induction ss generalizing l with
  | nil => rfl
  | cons x r ih => simp only [List.cons_append, aftL]; exact ih

/-! ### the inverse -/
def invL (o : Nat) (l : List Int) : List Int := mk o fun k => atL l k
theorem invL_len (o : Nat) (l : List Int) : (invL o l).length = o := mk_len _ _
def goneL (o : Nat) (l : List Int) : List Int := (idL o).filter fun k => decide (k ∉ l)
/-- the first numbers that are gone -/
theorem gone_succ (o : Nat) (l : List Int) : goneL (o + 1) l = goneL o l ++ if (o : Int) ∈ l then [] else [(o : Int)] := by
  unfold goneL idL
  rw [mk_succ, List.filter_append]
  congr 1
  by_cases h : (o : Int) ∈ l <;> simp [h]
theorem gone_len (o : Nat) (l : List Int) : (goneL o l).length ≤ o := by
  unfold goneL
  have := List.length_filter_le (fun k => decide (k ∉ l)) (idL o)
  rw [idL_len] at this
  exact this
theorem nodup_le {s t : List Int} (hn : s.Nodup) (h : ∀ x ∈ s, x ∈ t) : s.length ≤ t.length := by
  induction s generalizing t with
  | nil => simp
  | cons x r ih =>
    obtain ⟨h1, h2⟩ := List.nodup_cons.1 hn
    have hx := h x (by simp)
    have hle := (List.perm_cons_erase hx).length_eq
    simp only [List.length_cons] at hle ⊢
    have := ih (t := t.erase x) h2 (fun y hy => (List.mem_erase_of_ne (fun e : y = x => h1 (e ▸ hy))).2 (h y (by simp [hy])))
    omega
theorem filter_two {s : List Int} (p : Int → Bool) : (s.filter p).length + (s.filter fun k => !p k).length = s.length := by
  induction s with
  | nil => rfl
  | cons x r ih => cases hx : p x <;> simp [hx] <;> omega
theorem gone_more {o : Nat} {l : List Int} : o ≤ (goneL o l).length + l.length := by
  have hn : (idL o).Nodup := by
    rw [List.nodup_iff_pairwise_ne, List.pairwise_iff_getElem]
    intro i j hi hj hij
    rw [idL_get, idL_get]
    omega
  have h1 : ((idL o).filter fun k => decide (k ∈ l)).length ≤ l.length := by
    refine nodup_le (hn.sublist List.filter_sublist) fun x hx => ?_
    simpa using (List.mem_filter.1 hx).2
  have h2 := @filter_two (idL o) fun k => decide (k ∈ l)
  rw [idL_len] at h2
  have h3 : goneL o l = (idL o).filter fun k => !decide (k ∈ l) := by
    unfold goneL
    congr 1
    funext k
    simp
  rw [h3]
  omega
/-- what a move did its inverse takes back -/
theorem mov_back {l : List Int} {a m t : Nat} (h : a + m ≤ l.length) (ht : t ≤ l.length - m) : movL (movL l a m t) t m a = l := by
  have hr := remL_len h
  have hp : ((l.drop a).take m).length = m := by rw [List.length_take, List.length_drop]; omega
  have hrt : ((remL l a m).take t).length = t := by rw [List.length_take]; omega
  have h1 : remL (movL l a m t) t m = remL l a m := by
    conv => lhs; unfold remL
    unfold movL
    rw [List.take_left' hrt, ← List.drop_drop, List.drop_left' hrt, List.drop_left' hp, List.take_append_drop]
  have h2 : ((movL l a m t).drop t).take m = (l.drop a).take m := by
    unfold movL
    rw [List.drop_left' hrt, List.take_left' hp]
  have h3 : (l.take a).length = a := by rw [List.length_take]; omega
  unfold movL
  rw [show (remL l a m).take t ++ ((l.drop a).take m ++ (remL l a m).drop t) = movL l a m t from rfl, h1, h2]
  unfold remL
  rw [List.take_left' h3, List.drop_left' h3, ← List.drop_drop, List.take_append_drop, List.take_append_drop]
theorem mov_cmp {n a m t : Nat} (h : a + m ≤ n) (ht : t ≤ n - m) : cmpL (movL (idL n) a m t) (movL (idL n) t m a) = idL n := by
  unfold cmpL
  rw [movL_map]
  have := @map_g (movL (idL n) a m t)
  rw [movL_len, idL_len] at this
  rw [this, mov_back (by rw [idL_len]; exact h) (by rw [idL_len]; exact ht)]
theorem mov_inv {n a m t : Nat} (hn : n ≤ 4096) (h : a + m ≤ n) (ht : t ≤ n - m) : invL n (movL (idL n) a m t) = movL (idL n) t m a := by
  have hc := mov_cmp h ht
  have hv : Vm n (movL (idL n) a m t) := (idL_vm hn).mov
  have hw : Vm n (movL (idL n) t m a) := (idL_vm hn).mov
  have hl : (movL (idL n) a m t).length = n := by rw [movL_len, idL_len]
  have hl2 : (movL (idL n) t m a).length = n := by rw [movL_len, idL_len]
  refine mk_ext hl2 fun i hi => ?_
  have h1 : (cmpL (movL (idL n) a m t) (movL (idL n) t m a))[i]'(by rw [cmpL_len]; exact hi) = (i : Int) := by simp only [hc, idL_get]
  unfold cmpL at h1
  rw [List.getElem_map] at h1
  obtain ⟨p0, p1⟩ := hw.rng _ (List.getElem_mem hi)
  generalize (movL (idL n) t m a)[i] = x at *
  rcases Int.lt_or_le x 0 with k | k
  · obtain rfl : x = -1 := by omega
    rw [g_none] at h1
    omega
  · obtain ⟨j, rfl⟩ : ∃ i : Nat, x = i := ⟨x.toNat, by omega⟩
    rw [g_at (by omega)] at h1
    have := atL_get hv.one (i := j) (by omega) (by omega)
    rw [h1] at this
    exact this.symm

/-! ### carried lists -/
def pick (xs : List Int) (x : Int) : Int := if x = -1 then 0 else xs.getD x.toNat 0
def carL (l xs : List Int) : List Int := l.map (pick xs)
theorem carL_len (l xs : List Int) : (carL l xs).length = l.length := by simp [carL]
theorem pick_at {xs : List Int} {i : Nat} (h : i < xs.length) : pick xs (i : Int) = xs[i] := by
  unfold pick
  rw [if_neg (by omega), Int.toNat_natCast, List.getD_eq_getElem?_getD, List.getElem?_eq_getElem h]
  rfl
theorem car_cmp {a b xs : List Int} (hb : ∀ x ∈ b, -1 ≤ x ∧ x < a.length) : carL (cmpL a b) xs = carL b (carL a xs) := by
  unfold carL cmpL
  rw [List.map_map]
  refine List.map_congr_left fun x hx => ?_
  obtain ⟨h0, h1⟩ := hb x hx
  rcases Int.lt_or_le x 0 with k | k
  · obtain rfl : x = -1 := by omega
    rfl
  · obtain ⟨i, rfl⟩ : ∃ i : Nat, x = i := ⟨x.toNat, by omega⟩
    rw [pick_at (by rw [List.length_map]; omega), List.getElem_map]
    simp only [Function.comp]
    rw [g_at (by omega)]
end Go.Proofs.Ytakgnpmfnechhaa
