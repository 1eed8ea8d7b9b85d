/- Plain mathematics: a step on the ring is a step on the list. No program. -/
import Derived.Test.YtejgcpohdbiaoaaMov
namespace Go.Proofs.Ytejgcpohdbiaoaa

/-- the number at a place, -1 at the end -/
def lab (l : List Int) (i : Nat) : Int := l.getD i (-1)
theorem lab_in {l : List Int} {i : Nat} (h : i < l.length) : lab l i = l[i] := getD_in h _
theorem lab_end (l : List Int) : lab l l.length = -1 := by unfold lab; rw [List.getD_eq_getElem?_getD, List.getElem?_eq_none (Nat.le_refl _)]; rfl
theorem lab_inj {l : List Int} (h : Ord l) {i j : Nat} (hi : i ≤ l.length) (hj : j ≤ l.length) (e : lab l i = lab l j) : i = j := by
  rcases Nat.lt_or_ge i l.length with h1 | h1
  · rw [lab_in h1] at e
    rcases Nat.lt_or_ge j l.length with h2 | h2
    · rw [lab_in h2] at e
      exact (List.getElem_inj h.nd).1 e
    · obtain rfl : j = l.length := by omega
      rw [lab_end] at e
      have := h.nn _ (List.getElem_mem h1)
      omega
  · obtain rfl : i = l.length := by omega
    rw [lab_end] at e
    rcases Nat.lt_or_ge j l.length with h2 | h2
    · rw [lab_in h2] at e
      have := h.nn _ (List.getElem_mem h2)
      omega
    · omega
theorem lab_all (l : List Int) : (List.range l.length).map (lab l) = l := by
  refine List.ext_getElem (by simp) fun i h1 h2 => ?_
  simp only [List.getElem_map, List.getElem_range]
  exact lab_in h2
/-- the ring, as a list of numbers -/
structure Cyc (ls nx : Nat → Nat) (l : List Int) (c : List Nat) : Prop where
  ring : Ring ls nx l.length c
  perm : c.Perm (List.range l.length)
theorem Cyc.start (l : List Int) : Cyc (fun i => (i + l.length) % (l.length + 1)) (fun i => (i + 1) % (l.length + 1)) l (List.range l.length) := ⟨ring_start _, List.Perm.refl _⟩
theorem Cyc.list {ls nx : Nat → Nat} {l : List Int} {c : List Nat} (h : Cyc ls nx l c) : (c.map (lab l)).Perm l := by
  have := h.perm.map (lab l)
  rwa [lab_all] at this
theorem Cyc.mem {ls nx : Nat → Nat} {l : List Int} {c : List Nat} (h : Cyc ls nx l c) {i : Nat} (hi : i < l.length) : i ∈ c := h.perm.mem_iff.2 (List.mem_range.2 hi)
theorem Cyc.len {ls nx : Nat → Nat} {l : List Int} {c : List Nat} (h : Cyc ls nx l c) : c.length = l.length := by simpa using h.perm.length_eq
theorem Cyc.step {ls nx : Nat → Nat} {l : List Int} {c : List Nat} (h : Cyc ls nx l c) (ho : Ord l) {p q : Nat} (hp : p < l.length) (hq : q ≤ l.length) (hne : p ≠ q) :
    ls p ≤ l.length ∧ nx p ≤ l.length ∧ upd ls (nx p) (ls p) q ≤ l.length ∧ ∃ c', Cyc (upd (upd (upd ls (nx p) (ls p)) p (upd ls (nx p) (ls p) q)) q p) (upd (upd (upd nx (ls p) (nx p)) (upd ls (nx p) (ls p) q) p) p q) l c' ∧
      c'.map (lab l) = mvL (lab l p) (lab l q) (c.map (lab l)) := by
  have hq2 : q ∈ c ++ [l.length] := by
    rcases Nat.lt_or_ge q l.length with h1 | h1
    · exact List.mem_append.2 (.inl (h.mem h1))
    · exact List.mem_append.2 (.inr (by simp; omega))
  obtain ⟨h1, h2, h3, c', h4, h5⟩ := h.ring.move (h.mem hp) hq2 hne
  refine ⟨h1, h2, h3, c', ⟨h5, ?_⟩, ?_⟩
  · have hnd : (c ++ [l.length]).Nodup := by
      rw [List.nodup_append]
      refine ⟨h.ring.nd, by simp, fun a ha b hb e => ?_⟩
      have := h.ring.lt a ha
      simp at hb
      omega
    have hpm := mvT_perm hnd (List.mem_append.2 (.inl (h.mem hp))) hq2 hne
    rw [← h4] at hpm
    exact ((List.perm_append_right_iff _).1 hpm).trans h.perm
  · have hle : ∀ y ∈ c ++ [l.length], y ≤ l.length := fun y hy => by
      rcases List.mem_append.1 hy with hy | hy
      · exact Nat.le_of_lt (h.ring.lt y hy)
      · simp at hy; omega
    have e1 := mvT_map (lab l) (x := p) (a := q) (T := c ++ [l.length]) (fun y hy e => lab_inj ho (hle y hy) hq e) (fun y hy e => lab_inj ho (hle y hy) (Nat.le_of_lt hp) e)
    rw [← h4, List.map_append, List.map_append] at e1
    simp only [List.map_cons, List.map_nil, lab_end] at e1
    have hx : lab l p ≠ -1 := by rw [lab_in hp]; have := ho.nn _ (List.getElem_mem hp); omega
    rw [← mvL_end hx] at e1
    exact (List.append_left_inj _).1 e1
/-- the one behind -/
theorem Lnk.next {ls nx : Nat → Nat} {X Y : List Nat} {a b : Nat} (h : Lnk ls nx (X ++ a :: b :: Y)) : nx a = b := (Lnk.app.1 h).2.1
theorem Cyc.first {ls nx : Nat → Nat} {l : List Int} {c : List Nat} (h : Cyc ls nx l c) : nx l.length = (c ++ [l.length]).head (by simp) := by
  have h1 := h.ring.link
  obtain ⟨q, Y, hY, _⟩ := first_of c l.length
  rw [hY] at h1
  have h2 := Lnk.next (X := []) h1
  rw [h2]
  simp only [hY, List.head_cons]
theorem Cyc.behind {ls nx : Nat → Nat} {l : List Int} {c D E : List Nat} {e : Nat} (h : Cyc ls nx l c) (hc : c = D ++ e :: E) : nx e = (E ++ [l.length]).head (by simp) := by
  have h1 := h.ring.link
  obtain ⟨q, Y, hY, _⟩ := first_of E l.length
  have h2 : l.length :: (c ++ [l.length]) = (l.length :: D) ++ e :: q :: Y := by rw [hc, ← hY]; simp
  rw [h2] at h1
  rw [Lnk.next h1]
  simp only [hY, List.head_cons]
end Go.Proofs.Ytejgcpohdbiaoaa
