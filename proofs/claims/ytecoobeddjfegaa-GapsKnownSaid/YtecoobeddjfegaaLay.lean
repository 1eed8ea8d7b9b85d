/- Rows with a gap: what copying and clearing make of them. -/
import Derived.Test.YtecoobeddjfegaaBase
namespace Go.Proofs.Ytecoobeddjfegaa
open Go.RowKit

/-- a row of N cells that holds the list xs of n elements, with a gap of r cells at g -/
structure Lay (vals : List Value) (N n r g : Nat) (xs : List Value) : Prop where
  len : vals.length = N
  sum : n + r = N
  gn : g ≤ n
  lo : ∀ i, i < g → vals[i]? = xs[i]?
  hi : ∀ i, g ≤ i → i < n → vals[i + r]? = xs[i]?

theorem Lay.part_one {vals xs : List Value} {N n r g : Nat} (h : Lay vals N n r g xs) (h1 : ∀ v ∈ xs, v.oneCell' = true) (o k : Nat) (hk : o + k ≤ g) : ∀ v ∈ (vals.drop o).take k, v.oneCell' = true := by
  intro v hv
  obtain ⟨i, hi⟩ := List.mem_iff_getElem?.1 hv
  rw [List.getElem?_take] at hi
  split at hi
  · rw [List.getElem?_drop, h.lo _ (by omega)] at hi
    exact h1 v (List.mem_of_getElem? hi)
  · cases hi
theorem Lay.part_one2 {vals xs : List Value} {N n r g : Nat} (h : Lay vals N n r g xs) (h1 : ∀ v ∈ xs, v.oneCell' = true) (o k : Nat) (ho : g + r ≤ o) (hk : o + k ≤ N) : ∀ v ∈ (vals.drop o).take k, v.oneCell' = true := by
  intro v hv
  obtain ⟨i, hi⟩ := List.mem_iff_getElem?.1 hv
  rw [List.getElem?_take] at hi
  split at hi
  · have hs := h.sum
    rw [List.getElem?_drop, show o + i = (o + i - r) + r by omega, h.hi _ (by omega) (by omega)] at hi
    exact h1 v (List.mem_of_getElem? hi)
  · cases hi
theorem Lay.left {vals xs : List Value} {N n r g : Nat} (h : Lay vals N n r g xs) (to d : Nat) (z : Value) (ht : to ≤ g) (hd : d ≤ r) :
    Lay (splice (splice vals (to + r) ((vals.drop to).take (g - to))) to (List.replicate d z)) N n r to xs := by
  have hl := h.len
  have hs := h.sum
  have hg := h.gn
  have e1 : ((vals.drop to).take (g - to)).length = g - to := by simp; omega
  have e2 : (splice vals (to + r) ((vals.drop to).take (g - to))).length = N := by rw [length_splice _ _ _ (by rw [e1]; omega)]; exact hl
  refine ⟨by rw [length_splice _ _ _ (by simp; omega)]; exact e2, hs, by omega, fun i hi => ?_, fun i hi hn => ?_⟩
  · rw [splice_get _ _ _ _ (by simp; omega), if_pos hi, splice_get _ _ _ _ (by rw [e1]; omega), if_pos (by omega)]
    exact h.lo i (by omega)
  · rw [splice_get _ _ _ _ (by simp; omega), if_neg (by omega), if_neg (by simp; omega), splice_get _ _ _ _ (by rw [e1]; omega), if_neg (by omega), e1]
    by_cases hig : i < g
    · rw [if_pos (by omega), List.getElem?_take, if_pos (by omega), List.getElem?_drop, show to + (i + r - (to + r)) = i by omega]
      exact h.lo i hig
    · rw [if_neg (by omega)]
      exact h.hi i (by omega) hn
theorem Lay.right {vals xs : List Value} {N n r g : Nat} (h : Lay vals N n r g xs) (to m d : Nat) (z : Value) (ht : g ≤ to) (hn : to ≤ n) (hm : to ≤ m) (hd : m + d = to + r) :
    Lay (splice (splice vals g ((vals.drop (g + r)).take (to - g))) m (List.replicate d z)) N n r to xs := by
  have hl := h.len
  have hs := h.sum
  have hg := h.gn
  have e1 : ((vals.drop (g + r)).take (to - g)).length = to - g := by simp; omega
  have e2 : (splice vals g ((vals.drop (g + r)).take (to - g))).length = N := by rw [length_splice _ _ _ (by rw [e1]; omega)]; exact hl
  refine ⟨by rw [length_splice _ _ _ (by simp; omega)]; exact e2, hs, by omega, fun i hi => ?_, fun i hi hin => ?_⟩
  · rw [splice_get _ _ _ _ (by simp; omega), if_pos (by omega), splice_get _ _ _ _ (by rw [e1]; omega)]
    by_cases hig : i < g
    · rw [if_pos hig]; exact h.lo i hig
    · rw [if_neg hig, e1, if_pos (by omega), List.getElem?_take, if_pos (by omega), List.getElem?_drop, show g + r + (i - g) = i + r by omega]
      exact h.hi i (by omega) (by omega)
  · rw [splice_get _ _ _ _ (by simp; omega), if_neg (by omega), if_neg (by simp; omega), splice_get _ _ _ _ (by rw [e1]; omega), if_neg (by omega), e1, if_neg (by omega)]
    exact h.hi i (by omega) hin
theorem Lay.cut {vals xs : List Value} {N n r to : Nat} (h : Lay vals N n r to xs) (i k : Nat) (z : Value) (h1 : i ≤ to) (h2 : to ≤ i + k) (h3 : i + k ≤ n) (hn : xs.length = n) :
    Lay (splice (splice vals i (List.replicate (to - i) z)) (to + r) (List.replicate (i + k - to) z)) N (n - k) (r + k) i (xs.take i ++ xs.drop (i + k)) := by
  have hl := h.len
  have hs := h.sum
  have hg := h.gn
  have e2 : (splice vals i (List.replicate (to - i) z)).length = N := by rw [length_splice _ _ _ (by simp; omega)]; exact hl
  have e3 : (xs.take i).length = i := by simp; omega
  refine ⟨by rw [length_splice _ _ _ (by simp; omega)]; exact e2, by omega, by omega, fun j hj => ?_, fun j hj hjn => ?_⟩
  · rw [splice_get _ _ _ _ (by simp; omega), if_pos (by omega), splice_get _ _ _ _ (by simp; omega), if_pos hj, List.getElem?_append_left (by omega), List.getElem?_take, if_pos hj]
    exact h.lo j (by omega)
  · rw [splice_get _ _ _ _ (by simp; omega), if_neg (by omega), if_neg (by simp; omega), splice_get _ _ _ _ (by simp; omega), if_neg (by omega), if_neg (by simp; omega),
      List.getElem?_append_right (by omega), e3, List.getElem?_drop, show j + (r + k) = (j + k) + r by omega, show i + k + (j - i) = j + k by omega]
    exact h.hi (j + k) (by omega) (by omega)

theorem Lay.grown {vals xs : List Value} {N n r g : Nat} (h : Lay vals N n r g xs) (M : Nat) (z : Value) (hM : n ≤ M) :
    Lay (splice (splice (List.replicate M z) 0 (vals.take g)) (M - (n - g)) (vals.drop (g + r))) M n (M - n) g xs := by
  have hl := h.len
  have hs := h.sum
  have hg := h.gn
  have e1 : (vals.take g).length = g := by simp; omega
  have e2 : (vals.drop (g + r)).length = n - g := by simp; omega
  have e3 : (splice (List.replicate M z) 0 (vals.take g)).length = M := by rw [length_splice _ _ _ (by rw [e1]; simp; omega)]; simp
  refine ⟨by rw [length_splice _ _ _ (by rw [e2, e3]; omega)]; exact e3, by omega, hg, fun i hi => ?_, fun i hi hn => ?_⟩
  · rw [splice_get _ _ _ _ (by rw [e2, e3]; omega), if_pos (by omega), splice_get _ _ _ _ (by rw [e1]; simp; omega), if_neg (by omega), if_pos (by omega), List.getElem?_take, if_pos (by omega)]
    exact h.lo i hi
  · rw [splice_get _ _ _ _ (by rw [e2, e3]; omega), if_neg (by omega), if_pos (by omega), List.getElem?_drop, show g + r + (i + (M - n) - (M - (n - g))) = i + r by omega]
    exact h.hi i hi hn
theorem Lay.put {vals xs ys : List Value} {N n r g : Nat} (h : Lay vals N n r g xs) (hn : xs.length = n) (hm : ys.length ≤ r) :
    Lay (splice vals g ys) N (n + ys.length) (r - ys.length) (g + ys.length) (xs.take g ++ (ys ++ xs.drop g)) := by
  have hl := h.len
  have hs := h.sum
  have hg := h.gn
  have e3 : (xs.take g).length = g := by simp; omega
  refine ⟨by rw [length_splice _ _ _ (by omega)]; exact hl, by omega, by omega, fun i hi => ?_, fun i hi hin => ?_⟩
  · rw [splice_get _ _ _ _ (by omega)]
    by_cases h1 : i < g
    · rw [if_pos h1, List.getElem?_append_left (by omega), List.getElem?_take, if_pos h1]
      exact h.lo i h1
    · rw [if_neg h1, if_pos hi, List.getElem?_append_right (by omega), e3, List.getElem?_append_left (by omega)]
  · rw [splice_get _ _ _ _ (by omega), if_neg (by omega), if_neg (by omega), List.getElem?_append_right (by omega), e3, List.getElem?_append_right (by omega), List.getElem?_drop,
      show i + (r - ys.length) = i - ys.length + r by omega, show g + (i - g - ys.length) = i - ys.length by omega]
    exact h.hi _ (by omega) (by omega)
/-- what part copies: the elements ahead of the gap, and those behind it -/
theorem Lay.part {vals xs : List Value} {N n r g : Nat} (h : Lay vals N n r g xs) (i k m c : Nat) (z : Value) (hik : i + k ≤ n) (hm : m = min i g) (hc : c = min (g - m) k) :
    splice (splice (List.replicate k z) 0 ((vals.drop m).take c)) c ((vals.drop (i + c + r)).take (k - c)) = (xs.drop i).take k := by
  have hl := h.len
  have hs := h.sum
  have hg := h.gn
  have e1 : ((vals.drop m).take c).length = c := by simp; omega
  have e2 : ((vals.drop (i + c + r)).take (k - c)).length = k - c := by simp; omega
  have e3 : (splice (List.replicate k z) 0 ((vals.drop m).take c)).length = k := by rw [length_splice _ _ _ (by rw [e1]; simp; omega)]; simp
  apply List.ext_getElem?
  intro j
  rw [splice_get _ _ _ _ (by rw [e2, e3]; omega), splice_get _ _ _ _ (by rw [e1]; simp; omega), e1, e2, List.getElem?_take, List.getElem?_take, List.getElem?_take, List.getElem?_drop, List.getElem?_drop, List.getElem?_drop]
  by_cases h1 : j < c
  · rw [if_pos h1, if_neg (by omega), if_pos (by omega), if_pos (by omega), if_pos (by omega), show m + (j - 0) = i + j by omega]
    exact h.lo _ (by omega)
  · rw [if_neg h1]
    by_cases h2 : j < k
    · rw [if_pos (by omega), if_pos (by omega), if_pos h2, show i + c + r + (j - c) = i + j + r by omega]
      exact h.hi _ (by omega) (by omega)
    · rw [if_neg (by omega), if_neg h2, if_neg (by omega), if_neg (by omega), List.getElem?_eq_none (by simp; omega)]

/-- The buffer at block b: its row A of N cells (block S), with the gap from g to e, holds the list xs of n elements. -/
structure Buf (T D : TypeId) (w : World) (b : Nat) (A : Option Addr) (S N g e n : Nat) (xs : List Value) : Prop where
  box : w.heap[b]? = some (.cells #[.slice A N N, .int .i64 g, .int .i64 e] D (0, 0))
  row : 0 < N → A = some ⟨S, 0, none⟩ ∧ ∃ vals : List Value, w.heap[S]? = some (.cells vals.toArray T (0, 0)) ∧ Lay vals N n (e - g) g xs
  zero : N = 0 → A = none
  len : xs.length = n
  ge : g ≤ e
  gn : g ≤ n
  eN : e ≤ N
  s1 : N + g ≤ n + e
  s2 : n + e ≤ N + g
  max : N ≤ 4096
  one : ∀ v ∈ xs, v.oneCell' = true
  ne : 0 < N → b ≠ S

section
variable {T D : TypeId} {w w' : World} {b S N g e n : Nat} {A : Option Addr} {xs : List Value}
theorem Buf.c0 (h : Buf T D w b A S N g e n xs) : w.cell? ⟨b, 0, none⟩ = some (.slice A N N) := by rw [cell_of_row w b 0 _ D (0, 0) h.box]; rfl
theorem Buf.c1 (h : Buf T D w b A S N g e n xs) : w.cell? ⟨b, 1, none⟩ = some (.int .i64 g) := by rw [cell_of_row w b 1 _ D (0, 0) h.box]; rfl
theorem Buf.c2 (h : Buf T D w b A S N g e n xs) : w.cell? ⟨b, 2, none⟩ = some (.int .i64 e) := by rw [cell_of_row w b 2 _ D (0, 0) h.box]; rfl
theorem Buf.fz (h : Buf T D w b A S N g e n xs) (k : Nat) : w.frozen? ⟨b, k, none⟩ = false := by simp [World.frozen?, h.box]
theorem Buf.drewN (h : Buf T D w b A S N g e n xs) (k : Nat) : Buf T D (w.drewN k) b A S N g e n xs := ⟨h.box, h.row, h.zero, h.len, h.ge, h.gn, h.eN, h.s1, h.s2, h.max, h.one, h.ne⟩
theorem Buf.shifted (h : Buf T D w b A S N g e n xs) (to p : Nat) (hp : p = to + (e - g)) (hto : to ≤ n) {W : World} {vals : List Value}
    (hA : A = some ⟨S, 0, none⟩) (hbox : W.heap[b]? = some (.cells #[.slice A N N, .int .i64 to, .int .i64 p] D (0, 0))) (hrow : W.heap[S]? = some (.cells vals.toArray T (0, 0))) (hl : Lay vals N n (e - g) to xs) : Buf T D W b A S N to p n xs := by
  have h1 := h.ge
  have h2 := h.s1
  have h3 := h.s2
  have h4 := h.gn
  have e1 : e - g = p - to := by omega
  exact ⟨hbox, fun _ => ⟨hA, vals, hrow, by rw [← e1]; exact hl⟩, h.zero, h.len, by omega, hto, by omega, by omega, by omega, h.max, h.one, h.ne⟩
theorem Buf.cut (h : Buf T D w b A S N g e n xs) (i k z : Nat) (hik : i + k ≤ n) (hz : z = i + (e - g) + k) {W : World} {vals : List Value}
    (hA : A = some ⟨S, 0, none⟩) (hbox : W.heap[b]? = some (.cells #[.slice A N N, .int .i64 i, .int .i64 z] D (0, 0))) (hrow : W.heap[S]? = some (.cells vals.toArray T (0, 0))) (hl : Lay vals N (n - k) (e - g + k) i (xs.take i ++ xs.drop (i + k))) :
    Buf T D W b A S N i z (n - k) (xs.take i ++ xs.drop (i + k)) := by
  have h1 := h.ge
  have h2 := h.s1
  have h3 := h.s2
  have h4 := h.gn
  have h5 := h.len
  have e1 : e - g + k = z - i := by omega
  exact ⟨hbox, fun _ => ⟨hA, vals, hrow, by rw [← e1]; exact hl⟩, h.zero, by simp; omega, by omega, by omega, by omega, by omega, by omega, h.max, fun v hv => by
    rcases List.mem_append.1 hv with hv | hv
    · exact h.one v (List.mem_of_mem_take hv)
    · exact h.one v (List.mem_of_mem_drop hv), h.ne⟩
theorem Buf.grew (h : Buf T D w b A S N g e n xs) (M f S' : Nat) (hM : n ≤ M) (hM1 : 0 < M) (hM2 : M ≤ 4096) (hf : f + (n - g) = M) {W : World} {vals : List Value} (hne : b ≠ S')
    (hbox : W.heap[b]? = some (.cells #[.slice (some ⟨S', 0, none⟩) M M, .int .i64 g, .int .i64 f] D (0, 0))) (hrow : W.heap[S']? = some (.cells vals.toArray T (0, 0))) (hl : Lay vals M n (M - n) g xs) :
    Buf T D W b (some ⟨S', 0, none⟩) S' M g f n xs := by
  have h1 := h.ge
  have h2 := h.s1
  have h3 := h.s2
  have h4 := h.gn
  have e1 : M - n = f - g := by omega
  exact ⟨hbox, fun _ => ⟨rfl, vals, hrow, by rw [← e1]; exact hl⟩, by omega, h.len, by omega, h4, by omega, by omega, by omega, hM2, h.one, fun _ => hne⟩
theorem Buf.put (h : Buf T D w b A S N g e n xs) {ys : List Value} (k : Nat) (hk : g + ys.length = k) (hm : k ≤ e) (h1 : ∀ v ∈ ys, v.oneCell' = true) {W : World} {vals : List Value}
    (hA : A = some ⟨S, 0, none⟩) (hbox : W.heap[b]? = some (.cells #[.slice A N N, .int .i64 k, .int .i64 e] D (0, 0))) (hrow : W.heap[S]? = some (.cells vals.toArray T (0, 0))) (hl : Lay vals N (n + ys.length) (e - g - ys.length) (g + ys.length) (xs.take g ++ (ys ++ xs.drop g))) :
    Buf T D W b A S N k e (n + ys.length) (xs.take g ++ (ys ++ xs.drop g)) := by
  have h2 := h.s1
  have h3 := h.s2
  have h4 := h.gn
  have h5 := h.len
  subst hk
  have e1 : e - g - ys.length = e - (g + ys.length) := by omega
  exact ⟨hbox, fun _ => ⟨hA, vals, hrow, by rw [← e1]; exact hl⟩, h.zero, by simp; omega, by omega, by omega, h.eN, by omega, by omega, h.max, fun v hv => by
    rcases List.mem_append.1 hv with hv | hv
    · exact h.one v (List.mem_of_mem_take hv)
    · rcases List.mem_append.1 hv with hv | hv
      · exact h1 v hv
      · exact h.one v (List.mem_of_mem_drop hv), h.ne⟩
end
end Go.Proofs.Ytecoobeddjfegaa
