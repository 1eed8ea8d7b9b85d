/- Words for memory that the walks of this seat share. -/
import Derived.Test.YtedekcphgcmlnaaProg
import Derived.Test.YtedekcphgcmlnaaGood
import Derived.WalkKit
import Derived.WalkSpells
import Derived.WalkLawsBesides
import Derived.Lib.Hide
import Derived.Laws.OwnMore
import Derived.Laws.CopyOwn
import Derived.Deep.AppendLies
import Derived.Deep.Draws
import Derived.Deep.QuietTactic
import Derived.BigQuiet
import Derived.StillTailTactics
import Derived.Deep.RegionHeld3
import Derived.OneCell
import Derived.Outline
import Derived.IntWalk
import Derived.RegionTactic
import Derived.Deep.OwnRows
namespace Go.Proofs.Ytedekcphgcmlnaa
open Go.RowKit

theorem heap_lt {w : World} {b : Nat} {o : Obj} (h : w.heap[b]? = some o) : b < w.heap.size := by
  rcases Nat.lt_or_ge b w.heap.size with hlt | hge
  · exact hlt
  · rw [Array.getElem?_eq_none hge] at h; cases h
theorem new_at {w : World} {o : Obj} (g : Nat) (h : w.heap.size = g) : (w.alloc o).heap[g]? = some o := h ▸ heap_alloc_new w o
theorem add_plain (b off i : Nat) : (⟨b, off, none⟩ : Addr).add i = ⟨b, off + i, none⟩ := by
  unfold Addr.add
  split <;> simp_all
theorem ret_int {k : IntKind} {a b : Int} (h : a = b) : Ending.returned (.int k a) = .returned (.int k b) := by rw [h]
theorem ret_bool {a b : Bool} (h : a = b) : Ending.returned (.bool a) = .returned (.bool b) := by rw [h]

/-- nothing but blocks b and S, and what is new, has changed -/
structure Fr (w w' : World) (b S : Nat) : Prop where
  os : w'.os = w.os
  tape : w'.tape = w.tape
  output : w'.output = w.output
  size : w.heap.size ≤ w'.heap.size
  block : ∀ i, i < w.heap.size → i ≠ b → i ≠ S → w'.heap[i]? = w.heap[i]?
theorem Fr.refl (w : World) (b S : Nat) : Fr w w b S := ⟨rfl, rfl, rfl, Nat.le_refl _, fun _ _ _ _ => rfl⟩
theorem Fr.trans {w w1 w2 : World} {b S : Nat} (h : Fr w w1 b S) (k : Fr w1 w2 b S) : Fr w w2 b S :=
  ⟨k.os.trans h.os, k.tape.trans h.tape, k.output.trans h.output, Nat.le_trans h.size k.size, fun i hi h1 h2 => (k.block i (Nat.lt_of_lt_of_le hi h.size) h1 h2).trans (h.block i hi h1 h2)⟩
theorem Fr.drewN {w w' : World} {b S : Nat} (h : Fr w w' b S) (k : Nat) : Fr w (w'.drewN k) b S := ⟨h.os, h.tape, h.output, h.size, h.block⟩
theorem Fr.setCell {w w' : World} {b S : Nat} (h : Fr w w' b S) {p : Addr} (hp : p.block = b ∨ p.block = S) (u : Value) : Fr w (w'.setCell p u) b S :=
  ⟨h.os, h.tape, h.output, by simpa [World.setCell] using h.size, fun i hi h1 h2 => (Below.heap_setCell w' p u i (by omega)).trans (h.block i hi h1 h2)⟩
theorem Fr.setRow {w w' : World} {b S : Nat} (h : Fr w w' b S) (cs : Array Value) : Fr w (w'.setRow S cs) b S :=
  ⟨h.os, h.tape, h.output, by simpa [World.setRow] using h.size, fun i hi h1 h2 => (setRow_other w' S i cs h2).trans (h.block i hi h1 h2)⟩

/-- a block of three fields, field by field -/
theorem set3_1 {w : World} {b : Nat} {D : TypeId} {x y z u : Value} (h : w.heap[b]? = some (.cells #[x, y, z] D (0, 0))) : (w.setCell ⟨b, 1, none⟩ u).heap[b]? = some (.cells #[x, u, z] D (0, 0)) := by
  simp [World.setCell, Array.getElem?_modify, h]
theorem set3_2 {w : World} {b : Nat} {D : TypeId} {x y z u : Value} (h : w.heap[b]? = some (.cells #[x, y, z] D (0, 0))) : (w.setCell ⟨b, 2, none⟩ u).heap[b]? = some (.cells #[x, y, u] D (0, 0)) := by
  simp [World.setCell, Array.getElem?_modify, h]
theorem set3_0 {w : World} {b : Nat} {D : TypeId} {x y z u : Value} (h : w.heap[b]? = some (.cells #[x, y, z] D (0, 0))) : (w.setCell ⟨b, 0, none⟩ u).heap[b]? = some (.cells #[u, y, z] D (0, 0)) := by
  simp [World.setCell, Array.getElem?_modify, h]

theorem Fr.alloc {w w' : World} {b S : Nat} (h : Fr w w' b S) (o : Obj) : Fr w (w'.alloc o) b S :=
  ⟨h.os, h.tape, h.output, Nat.le_trans h.size (by simp), fun i hi h1 h2 => (Below.heap_alloc w' o i (Nat.lt_of_lt_of_le hi h.size)).trans (h.block i hi h1 h2)⟩
theorem Fr.trans2 {w w1 w2 : World} {b S S' : Nat} (h : Fr w w1 b S) (k : Fr w1 w2 b S') (hS : S' = S ∨ w.heap.size ≤ S') : Fr w w2 b S :=
  ⟨k.os.trans h.os, k.tape.trans h.tape, k.output.trans h.output, Nat.le_trans h.size k.size, fun i hi h1 h2 => (k.block i (Nat.lt_of_lt_of_le hi h.size) h1 (by rcases hS with e | e <;> omega)).trans (h.block i hi h1 h2)⟩
theorem Fr.below {w w' : World} {b S B : Nat} (h : Fr w w' b S) (hb : B ≤ b) (hS : B ≤ S) (hB : B ≤ w.heap.size) : Below B w w' :=
  ⟨h.os, h.tape, h.output, h.size, fun i hi => h.block i (by omega) (by omega) (by omega)⟩


theorem Fr.of_below {w w' : World} {b S : Nat} (h : Below w.heap.size w w') : Fr w w' b S := ⟨h.os, h.tape, h.output, h.size, fun i hi _ _ => h.block i hi⟩

/-- a slot's cells -/
def c3 (x : Sl) : List Value := [.int .u8 x.st, .int .u64 x.key, .int .i64 x.val]
def sv (S : List Sl) : List Value := S.flatMap c3
theorem sv_len (S : List Sl) : (sv S).length = S.length * 3 := by
  induction S with
  | nil => rfl
  | cons s S ih => simp [sv, c3] at ih ⊢; omega
theorem sv_app (a b : List Sl) : sv (a ++ b) = sv a ++ sv b := by simp [sv]
theorem sv_get {S : List Sl} {i : Nat} {x : Sl} (h : S[i]? = some x) : (sv S)[i * 3]? = some (.int .u8 x.st) ∧ (sv S)[i * 3 + 1]? = some (.int .u64 x.key) ∧ (sv S)[i * 3 + 2]? = some (.int .i64 x.val) := by
  have hl : i < S.length := (List.getElem?_eq_some_iff.1 h).1
  have e := split_at h
  have e1 : (sv (S.take i)).length = i * 3 := by rw [sv_len, List.length_take]; omega
  have e2 : sv S = sv (S.take i) ++ (c3 x ++ sv (S.drop (i + 1))) := by
    conv => lhs; rw [e]
    rw [sv_app]
    rfl
  rw [e2]
  refine ⟨?_, ?_, ?_⟩
  · rw [List.getElem?_append_right (by omega), e1, Nat.sub_self]; rfl
  · rw [List.getElem?_append_right (by omega), e1, Nat.add_sub_cancel_left]; rfl
  · rw [List.getElem?_append_right (by omega), e1, Nat.add_sub_cancel_left]; rfl
theorem sv_set {S : List Sl} {i : Nat} (hi : i < S.length) (x : Sl) (rest : List Value) : (((sv S ++ rest).set (i * 3) (.int .u8 x.st)).set (i * 3 + 1) (.int .u64 x.key)).set (i * 3 + 2) (.int .i64 x.val) = sv (S.set i x) ++ rest := by
  obtain ⟨y, hy⟩ : ∃ y, S[i]? = some y := ⟨_, List.getElem?_eq_getElem hi⟩
  have e := split_at hy
  have e1 : (sv (S.take i)).length = i * 3 := by rw [sv_len, List.length_take]; omega
  have e2 : sv S ++ rest = sv (S.take i) ++ (c3 y ++ (sv (S.drop (i + 1)) ++ rest)) := by
    conv => lhs; rw [e]
    rw [sv_app]
    simp [sv]
  have e3 : sv (S.set i x) ++ rest = sv (S.take i) ++ (c3 x ++ (sv (S.drop (i + 1)) ++ rest)) := by
    rw [set_split hi, sv_app]
    simp [sv]
  rw [e2, e3, List.set_append_right _ _ (by omega), List.set_append_right _ _ (by omega), List.set_append_right _ _ (by omega), e1, Nat.sub_self, Nat.add_sub_cancel_left, Nat.add_sub_cancel_left]
  rfl
/-- the slots lie in block s -/
def Row (w : World) (s : Nat) (S : List Sl) : Prop := ∃ rest : List Value, w.heap[s]? = some (.cells (sv S ++ rest).toArray 59 (0, 0))
theorem Row.lt {w : World} {s : Nat} {S : List Sl} (h : Row w s S) : s < w.heap.size := by
  obtain ⟨_, h⟩ := h
  exact heap_lt h
theorem Row.get {w : World} {s : Nat} {S : List Sl} (h : Row w s S) {i : Nat} {x : Sl} (hx : S[i]? = some x) : w.cell? ⟨s, i * 3, none⟩ = some (.int .u8 x.st) ∧ w.cell? ⟨s, i * 3 + 1, none⟩ = some (.int .u64 x.key) ∧ w.cell? ⟨s, i * 3 + 2, none⟩ = some (.int .i64 x.val) := by
  obtain ⟨rest, hr⟩ := h
  have hl : i < S.length := (List.getElem?_eq_some_iff.1 hx).1
  have e := sv_len S
  obtain ⟨g0, g1, g2⟩ := sv_get hx
  have key : ∀ (j : Nat) (v : Value), (sv S)[j]? = some v → w.cell? ⟨s, j, none⟩ = some v := fun j v hj => by
    have hlt := (List.getElem?_eq_some_iff.1 hj).1
    refine cell_of_row _ _ j _ 59 (0, 0) hr |>.trans ?_
    simp [List.getElem?_append_left hlt, hj]
  exact ⟨key _ _ g0, key _ _ g1, key _ _ g2⟩
theorem Row.keep {w w' : World} {s : Nat} {S : List Sl} (h : Row w s S) (hb : w'.heap[s]? = w.heap[s]?) : Row w' s S := by
  obtain ⟨rest, hr⟩ := h
  exact ⟨rest, hb.trans hr⟩
theorem row_set {w : World} {s : Nat} {cs : List Value} {T : TypeId} {i : Nat} {u : Value} (h : w.heap[s]? = some (.cells cs.toArray T (0, 0))) : (w.setCell ⟨s, i, none⟩ u).heap[s]? = some (.cells (cs.set i u).toArray T (0, 0)) := by
  simp [World.setCell, Array.getElem?_modify, h]
theorem Row.set {w : World} {s : Nat} {S : List Sl} (h : Row w s S) {i : Nat} (hi : i < S.length) (x : Sl) :
    Row (((w.setCell ⟨s, i * 3, none⟩ (.int .u8 x.st)).setCell ⟨s, i * 3 + 1, none⟩ (.int .u64 x.key)).setCell ⟨s, i * 3 + 2, none⟩ (.int .i64 x.val)) s (S.set i x) := by
  obtain ⟨rest, hr⟩ := h
  refine ⟨rest, ?_⟩
  rw [← sv_set hi x rest]
  exact row_set (row_set (row_set hr))
theorem Row.val {w : World} {s : Nat} {S : List Sl} (h : Row w s S) {i : Nat} {k v : Int} (hx : S[i]? = some (.taken k v)) (u : Int) : Row (w.setCell ⟨s, i * 3 + 2, none⟩ (.int .i64 u)) s (S.set i (.taken k u)) := by
  obtain ⟨rest, hr⟩ := h
  have hi : i < S.length := (List.getElem?_eq_some_iff.1 hx).1
  obtain ⟨g0, g1, g2⟩ := sv_get hx
  have hn := sv_len S
  refine ⟨rest, ?_⟩
  rw [← sv_set hi (.taken k u) rest]
  have e0 : (sv S ++ rest).set (i * 3) (.int .u8 1) = sv S ++ rest := by
    refine List.ext_getElem? fun j => ?_
    rw [List.getElem?_set]
    split
    · rename_i e; subst e
      rw [if_pos (by rw [List.length_append]; omega), List.getElem?_append_left (by omega), g0]; rfl
    · rfl
  have e1 : (sv S ++ rest).set (i * 3 + 1) (.int .u64 k) = sv S ++ rest := by
    refine List.ext_getElem? fun j => ?_
    rw [List.getElem?_set]
    split
    · rename_i e; subst e
      rw [if_pos (by rw [List.length_append]; omega), List.getElem?_append_left (by omega), g1]; rfl
    · rfl
  show _ = some (Obj.cells ((((sv S ++ rest).set (i * 3) (.int .u8 1)).set (i * 3 + 1) (.int .u64 k)).set (i * 3 + 2) (.int .i64 u)).toArray 59 (0, 0))
  rw [e0, e1]
  exact row_set hr
/-- the map at block b, its slots in block s -/
structure Mp (w : World) (b s : Nat) (S : List Sl) : Prop where
  obj : ∃ (A : Option Addr) (c : Nat), w.heap[b]? = some (.cells #[.slice A S.length c, .int .i64 (prs S).length, .int .i64 (tms S)] 54 (0, 0)) ∧ (S = [] → A = none ∧ c = 0) ∧ (S ≠ [] → A = some ⟨s, 0, none⟩ ∧ S.length ≤ c ∧ c ≤ 9223372036854775807)
  row : S ≠ [] → Row w s S ∧ s ≠ b
theorem Mp.lt {w : World} {b s : Nat} {S : List Sl} (h : Mp w b s S) : b < w.heap.size := by
  obtain ⟨_, _, h1, _⟩ := h.obj
  exact heap_lt h1
theorem Mp.keep {w w' : World} {b s : Nat} {S : List Sl} (h : Mp w b s S) (hb : w'.heap[b]? = w.heap[b]?) (hs : s < w.heap.size → w'.heap[s]? = w.heap[s]?) : Mp w' b s S := by
  obtain ⟨A, c, h1, h2⟩ := h.obj
  exact ⟨⟨A, c, hb.trans h1, h2⟩, fun h0 => ⟨(h.row h0).1.keep (hs (h.row h0).1.lt), (h.row h0).2⟩⟩
theorem Mp.next {w w' : World} {b s : Nat} {S : List Sl} (h : Mp w b s S) (hb : Below w.heap.size w w') : Mp w' b s S :=
  h.keep (hb.block b h.lt) (fun hs => hb.block s hs)
/-- the cells of a map's object -/
structure Obj3 (w : World) (b : Nat) (A : Option Addr) (n c : Nat) (k t : Int) : Prop where
  whole : w.heap[b]? = some (.cells #[.slice A n c, .int .i64 k, .int .i64 t] 54 (0, 0))
  c0 : w.cell? ⟨b, 0, none⟩ = some (.slice A n c)
  c1 : w.cell? ⟨b, 1, none⟩ = some (.int .i64 k)
  c2 : w.cell? ⟨b, 2, none⟩ = some (.int .i64 t)
theorem obj3 {w : World} {b : Nat} {A : Option Addr} {n c : Nat} {k t : Int} (h : w.heap[b]? = some (.cells #[.slice A n c, .int .i64 k, .int .i64 t] 54 (0, 0))) : Obj3 w b A n c k t :=
  ⟨h, cell_of_row _ _ 0 _ 54 (0, 0) h, cell_of_row _ _ 1 _ 54 (0, 0) h, cell_of_row _ _ 2 _ 54 (0, 0) h⟩
theorem Obj3.frozen {w : World} {b : Nat} {A : Option Addr} {n c : Nat} {k t : Int} (h : Obj3 w b A n c k t) (i : Nat) : w.frozen? ⟨b, i, none⟩ = false := frozen_of_row w b i _ 54 h.whole
theorem Row.frozen {w : World} {s : Nat} {S : List Sl} (h : Row w s S) (i : Nat) : w.frozen? ⟨s, i, none⟩ = false := by
  obtain ⟨rest, hr⟩ := h
  exact frozen_of_row w s i _ 59 hr
theorem Mp.nil {w : World} {b s : Nat} (h : Mp w b s []) : Obj3 w b none 0 0 0 0 := by
  obtain ⟨A, c, h1, h2, _⟩ := h.obj
  obtain ⟨rfl, rfl⟩ := h2 rfl
  exact obj3 h1
theorem Mp.full {w : World} {b s : Nat} {S : List Sl} (h : Mp w b s S) (hS : S ≠ []) : ∃ c, Obj3 w b (some ⟨s, 0, none⟩) S.length c (prs S).length (tms S) ∧ Row w s S ∧ s ≠ b ∧ S.length ≤ c ∧ c ≤ 9223372036854775807 := by
  obtain ⟨A, c, h1, _, h2⟩ := h.obj
  obtain ⟨rfl, h3, h4⟩ := h2 hS
  exact ⟨c, obj3 h1, (h.row hS).1, (h.row hS).2, h3, h4⟩
theorem Mp.any {w : World} {b s : Nat} {S : List Sl} (h : Mp w b s S) : ∃ A c, Obj3 w b A S.length c (prs S).length (tms S) := by
  obtain ⟨A, c, h1, _⟩ := h.obj
  exact ⟨A, c, obj3 h1⟩
end Go.Proofs.Ytedekcphgcmlnaa
