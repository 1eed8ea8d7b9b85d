/- A slice literal of lists of bits, laid in a new block. -/
import Derived.Test.YtbdjpacmbaoaeaaDoorJoinW
import Derived.Great.BuildSlice
namespace Go.Proofs.YtbdjpacmbaoaeaaDoor
open Go.RowKit

theorem foldset_list (off : Nat) : ∀ (vs : List Value) (k : Nat) (cs : Array Value), ((vs.zipIdx k).foldl (fun (cs : Array Value) (x : Value × Nat) => cs.setIfInBounds (off + x.2) x.1) cs).size = cs.size ∧
    ∀ i, off + k + vs.length ≤ cs.size → ((vs.zipIdx k).foldl (fun (cs : Array Value) (x : Value × Nat) => cs.setIfInBounds (off + x.2) x.1) cs)[i]? = if off + k ≤ i ∧ i < off + k + vs.length then vs[i - (off + k)]? else cs[i]?
  | [], k, cs => by
    simp
    intro i _ h1 h2
    omega
  | v :: vs, k, cs => by
    obtain ⟨h1, h2⟩ := foldset_list off vs (k + 1) (cs.setIfInBounds (off + k) v)
    simp only [List.zipIdx_cons, List.foldl_cons]
    refine ⟨by rw [h1]; simp, ?_⟩
    intro i hi
    simp only [List.length_cons] at hi ⊢
    rw [h2 i (by simp; omega)]
    by_cases a : off + (k + 1) ≤ i ∧ i < off + (k + 1) + vs.length
    · rw [if_pos a, if_pos (by omega)]
      rw [show i - (off + k) = (i - (off + (k + 1))) + 1 by omega, List.getElem?_cons_succ]
    · rw [if_neg a]
      by_cases b : i = off + k
      · subst b
        rw [if_pos (by omega), Nat.sub_self, List.getElem?_cons_zero, Array.getElem?_setIfInBounds, if_pos rfl, if_pos (by omega)]
      · rw [if_neg (by omega), Array.getElem?_setIfInBounds_ne (by omega)]
theorem foldset (off : Nat) (v cs : Array Value) (h : off + v.size ≤ cs.size) : (v.zipIdx.foldl (fun (cs : Array Value) (x : Value × Nat) => cs.setIfInBounds (off + x.2) x.1) cs).size = cs.size ∧
    ∀ i, (v.zipIdx.foldl (fun (cs : Array Value) (x : Value × Nat) => cs.setIfInBounds (off + x.2) x.1) cs)[i]? = if off ≤ i ∧ i < off + v.size then v[i - off]? else cs[i]? := by
  have e : v.zipIdx.foldl (fun (cs : Array Value) (x : Value × Nat) => cs.setIfInBounds (off + x.2) x.1) cs = (v.toList.zipIdx 0).foldl (fun (cs : Array Value) (x : Value × Nat) => cs.setIfInBounds (off + x.2) x.1) cs := by
    rw [← Array.foldl_toList, Array.toList_zipIdx]
  obtain ⟨h1, h2⟩ := foldset_list off v.toList 0 cs
  rw [e]
  refine ⟨h1, fun i => ?_⟩
  rw [h2 i (by simpa using h)]
  simp
theorem size_fl (l : List Bool) : (Value.agg (fl l)).cells.size = 65 := fl_size l
theorem fill_step (cs : Array Value) (t : Nat) (l : List Bool) (rest : List (Nat × Value)) (h : t * 65 + 65 ≤ cs.size) : ∃ cs', cs'.size = cs.size ∧ (∀ i, cs'[i]? = if t * 65 ≤ i ∧ i < t * 65 + 65 then (fl l)[i - t * 65]? else cs[i]?) ∧
    Instr.fill (fun i => some (i * 65, 65)) cs ((t, .agg (fl l)) :: rest) = Instr.fill (fun i => some (i * 65, 65)) cs' rest := by
  obtain ⟨h1, h2⟩ := foldset (t * 65) (fl l) cs (by rw [fl_size]; exact h)
  rw [fl_size] at h2
  refine ⟨_, h1, h2, ?_⟩
  have e : (decide ((Value.agg (fl l)).cells.size ≠ 65) || decide (t * 65 + (Value.agg (fl l)).cells.size > cs.size)) = false := by
    rw [size_fl]
    simp
    omega
  simp only [Instr.fill]
  rw [if_neg (by rw [e]; decide)]
  rfl
theorem info64' : ∃ ie z, Tryd.prog.info? 64 = some ie ∧ ie.zero = some z ∧ ie.size = 65 := by
  have h : ((Tryd.prog.info? 64).bind (·.zero)).isSome = true := by kernel_rfl
  have h2 := size64
  cases hi : Tryd.prog.info? 64 with
  | none => rw [hi] at h; cases h
  | some ie =>
    rw [hi] at h h2
    cases hz : ie.zero with
    | none => simp [hz] at h
    | some z => exact ⟨ie, z, rfl, hz, by simpa using h2⟩
/-- the new block holds the lists -/
theorem row_of (w : World) (ls : List (List Bool)) (cells : Array Value) (hc : ∀ t (h : t < ls.length), ∀ j, j < 65 → cells[t * 65 + j]? = (fl ls[t])[j]?) : LsAt (w.alloc (.cells cells 64)) w.heap.size ls := by
  intro t ht j v hv
  have hj : j < 65 := by
    have := (List.getElem?_eq_some_iff.1 hv).1
    rw [fcells_len, words_len] at this
    exact this
  rw [cell_of_row _ _ (t * 65 + j) cells 64 (0, 0) (heap_alloc_new _ _), hc t ht j hj, ← hv]
  simp [fl]
theorem lits2 (a b : List Bool) : ∃ cells : Array Value, (∀ W, (Instr.buildSlice 85 2 #[(0, .agg (fl a)), (1, .agg (fl b))]).run Tryd.prog W = .ok (.slice (some ⟨W.heap.size, 0, none⟩) 2 2) (W.alloc (.cells cells 64))) ∧ Hid (∀ W : World, LsAt (W.alloc (.cells cells 64)) W.heap.size [a, b]) := by
  obtain ⟨ie, z, hie, hz, hs⟩ := info64'
  obtain ⟨c1, s1, g1, e1⟩ := fill_step ((Array.range (2 * ie.size)).map (z.cells[· % z.cells.size]!)) 0 a [(1, .agg (fl b))] (by simp [hs])
  obtain ⟨c2, s2, g2, e2⟩ := fill_step c1 1 b [] (by rw [s1]; simp [hs])
  refine ⟨c2, fun W => ?_, Lib.hid fun W => row_of W _ c2 ?_⟩
  · refine run_buildSlice W 85 64 2 _ c2 ie z Tryd.underlying85 hie hz (by rw [hs]; decide) (by rw [hs]; decide) ?_
    rw [hs] at e1 ⊢
    rw [e1, e2]
    rfl
  · intro t ht j hj
    simp only [List.length_cons, List.length_nil] at ht
    rw [g2]
    rcases show t = 0 ∨ t = 1 by omega with rfl | rfl
    · rw [if_neg (by omega), g1, if_pos (by omega)]
      simp
    · rw [if_pos (by omega)]
      simp
theorem lits3 (a b c : List Bool) : ∃ cells : Array Value, (∀ W, (Instr.buildSlice 85 3 #[(0, .agg (fl a)), (1, .agg (fl b)), (2, .agg (fl c))]).run Tryd.prog W = .ok (.slice (some ⟨W.heap.size, 0, none⟩) 3 3) (W.alloc (.cells cells 64))) ∧ Hid (∀ W : World, LsAt (W.alloc (.cells cells 64)) W.heap.size [a, b, c]) := by
  obtain ⟨ie, z, hie, hz, hs⟩ := info64'
  obtain ⟨c1, s1, g1, e1⟩ := fill_step ((Array.range (3 * ie.size)).map (z.cells[· % z.cells.size]!)) 0 a [(1, .agg (fl b)), (2, .agg (fl c))] (by simp [hs])
  obtain ⟨c2, s2, g2, e2⟩ := fill_step c1 1 b [(2, .agg (fl c))] (by rw [s1]; simp [hs])
  obtain ⟨c3, s3, g3, e3⟩ := fill_step c2 2 c [] (by rw [s2, s1]; simp [hs])
  refine ⟨c3, fun W => ?_, Lib.hid fun W => row_of W _ c3 ?_⟩
  · refine run_buildSlice W 85 64 3 _ c3 ie z Tryd.underlying85 hie hz (by rw [hs]; decide) (by rw [hs]; decide) ?_
    rw [hs] at e1 ⊢
    rw [e1, e2, e3]
    rfl
  · intro t ht j hj
    simp only [List.length_cons, List.length_nil] at ht
    rw [g3]
    rcases show t = 0 ∨ t = 1 ∨ t = 2 by omega with rfl | rfl | rfl
    · rw [if_neg (by omega), g2, if_neg (by omega), g1, if_pos (by omega)]
      simp
    · rw [if_neg (by omega), g2, if_pos (by omega)]
      simp
    · rw [if_pos (by omega)]
      simp
end Go.Proofs.YtbdjpacmbaoaeaaDoor
