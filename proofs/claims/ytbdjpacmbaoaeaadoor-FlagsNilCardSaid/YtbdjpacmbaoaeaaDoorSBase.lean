/-
  Words for memory that the walks of this seat share: a slice that reads as a list of cells; spans as pairs.
-/
import Derived.Test.YtbdjpacmbaoaeaaDoorProg
import Derived.Test.YtbdjpacmbaoaeaaDoorSPlain
import Derived.WalkKit
import Derived.WalkSpells
import Derived.WalkLawsBesides
import Derived.Lib.Hide
import Derived.Laws.OwnMore
import Derived.Deep.AppendLies
import Derived.Deep.Draws
import Derived.Deep.QuietTactic
import Derived.BigQuiet
import Derived.StillTailTactics
import Derived.Deep.RegionHeld3
namespace Go.Proofs.YtbdjpacmbaoaeaaDoor.S
open Go.RowKit

theorem Tryd.cells56 : Tryd.prog.cellsOf 56 = 2 := by kernel_rfl
theorem Tryd.cells57 : Tryd.prog.cellsOf 57 = 2 := by kernel_rfl




theorem add_plain0 (b off i : Nat) : (⟨b, off, none⟩ : Addr).add i = ⟨b, off + i, none⟩ := by
  unfold Addr.add
  split <;> simp_all
/-- The slice value '.slice A n c' reads as the list of pairs xs, all of it below block B. -/
def Rd (w : World) (B : Nat) (A : Option Addr) (xs : List Sp) : Prop :=
  ∀ k (h : k < xs.length), ∃ b o, A = some ⟨b, o, none⟩ ∧ b < B ∧ w.cell? ⟨b, o + k * 2, none⟩ = some (.int .i64 xs[k].1) ∧ w.cell? ⟨b, o + k * 2 + 1, none⟩ = some (.int .i64 xs[k].2)

section
variable {w w' : World} {B B' : Nat} {A : Option Addr} {xs : List Sp}
theorem Rd.nil : Rd w B A [] := fun k h => absurd h (by simp)
theorem Rd.keep (h : Rd w B A xs) (hk : ∀ p : Addr, p.block < B → w'.cell? p = w.cell? p) : Rd w' B A xs := fun k hl => by
  obtain ⟨b, o, e, hb, h1, h2⟩ := h k hl
  exact ⟨b, o, e, hb, (hk _ hb).trans h1, (hk _ hb).trans h2⟩
theorem Rd.below (h : Rd w B A xs) (hb : Below B w w') : Rd w' B A xs := h.keep fun _ hp => hb.cell hp
theorem Rd.more (h : Rd w B A xs) (hB : B ≤ B') : Rd w B' A xs := fun k hl => by
  obtain ⟨b, o, e, hb, h1, h2⟩ := h k hl
  exact ⟨b, o, e, by omega, h1, h2⟩
end
theorem Tryd.info56 : (Tryd.prog.info? 56).map (fun i => (i.zero, i.size, i.bytes)) = some (some (.agg #[.int .i64 0, .int .i64 0]), 2, 16) := by kernel_rfl
theorem Tryd.info57 : (Tryd.prog.info? 57).map (fun i => (i.zero, i.size, i.bytes)) = some (some (.agg #[.int .i64 0, .int .i64 0]), 2, 16) := by kernel_rfl

/-- the cells of a list of pairs -/
def flat (xs : List Sp) : List Value := xs.flatMap fun s => [.int .i64 s.1, .int .i64 s.2]
theorem flat_nil : flat [] = [] := rfl
theorem flat_app (xs ys : List Sp) : flat (xs ++ ys) = flat xs ++ flat ys := by simp [flat]
theorem flat_one (s : Sp) : flat [s] = [.int .i64 s.1, .int .i64 s.2] := rfl
theorem flat_cons (s : Sp) (xs : List Sp) : flat (s :: xs) = .int .i64 s.1 :: .int .i64 s.2 :: flat xs := rfl
theorem flat_get (xs : List Sp) (k : Nat) (h : k < xs.length) : (flat xs)[k * 2]? = some (.int .i64 xs[k].1) ∧ (flat xs)[k * 2 + 1]? = some (.int .i64 xs[k].2) := by
  induction xs generalizing k with
  | nil => simp at h
  | cons s r ih =>
    cases k with
    | zero => simp [flat_cons]
    | succ k =>
      have h' : k < r.length := by simpa using h
      have e : (k + 1) * 2 = k * 2 + 1 + 1 := by omega
      rw [flat_cons, e, List.getElem?_cons_succ, List.getElem?_cons_succ, List.getElem?_cons_succ, List.getElem?_cons_succ]
      simpa using ih k h'
theorem take_snoc (xs : List Sp) (k : Nat) (h : k < xs.length) : xs.take (k + 1) = xs.take k ++ [xs[k]] := by
  rw [List.take_succ_eq_append_getElem h]

/-- The slice value v is nil, or a row of the call's own (blocks from base on), and holds xs. -/
def Own (w : World) (base : Nat) (e : TypeId) (v : Value) (xs : List Sp) : Prop := w.ownsRow base e 2 v xs.length (flat xs)
theorem Own.rd {w : World} {base : Nat} {e : TypeId} {v : Value} {xs : List Sp} (h : Own w base e v xs) :
    ∃ A c, v = .slice A xs.length c ∧ xs.length ≤ c ∧ Rd w w.heap.size A xs := by
  rcases h.2 with ⟨hv, hn⟩ | ⟨g, cap, cur, hv, hb, hg, hnc, hcm, hcs, ht⟩
  · have : xs = [] := List.eq_nil_of_length_eq_zero hn
    subst this
    exact ⟨none, 0, hv, Nat.le_refl _, Rd.nil⟩
  · refine ⟨_, _, hv, hnc, fun k hk => ⟨g, 0, rfl, ?_, ?_, ?_⟩⟩
    · exact (Array.getElem?_eq_some_iff.1 hg).1
    · have := h.cells (g := g) (by rw [hv]; rfl) (k * 2) _ (flat_get xs k hk).1
      rwa [add_plain0] at this
    · have := h.cells (g := g) (by rw [hv]; rfl) (k * 2 + 1) _ (flat_get xs k hk).2
      rwa [add_plain0] at this
theorem below_drewN {B : Nat} {a w : World} (h : Below B a w) (n : Nat) : Below B a (w.drewN n) := ⟨h.os, h.tape, h.output, h.size, h.block⟩
theorem ret_bool {a b : Bool} (h : a = b) : Ending.returned (.bool a) = .returned (.bool b) := by rw [h]
theorem ret_int {k : IntKind} {a b : Int} (h : a = b) : Ending.returned (.int k a) = .returned (.int k b) := by rw [h]

theorem flat_len (xs : List Sp) : (flat xs).length = xs.length * 2 := by
  induction xs with
  | nil => rfl
  | cons s r ih => rw [flat_cons]; simp [ih]; omega
theorem flat_set2 (xs : List Sp) (k : Nat) (h : k < xs.length) (a b : Int) (ha : xs[k].1 = a) : (flat xs).set (k * 2 + 1) (.int .i64 b) = flat (xs.set k (a, b)) := by
  induction xs generalizing k with
  | nil => simp at h
  | cons s r ih =>
    cases k with
    | zero => subst ha; simp [flat_cons]
    | succ k =>
      have h' : k < r.length := by simpa using h
      have e : (k + 1) * 2 + 1 = k * 2 + 1 + 1 + 1 := by omega
      rw [flat_cons, e, List.set_cons_succ, List.set_cons_succ, List.set_cons_succ, flat_cons, ih k h' (by simpa using ha)]

theorem only_refl (w : World) (row : Option Nat) : w.grownBy w row := ⟨rfl, rfl, rfl, Nat.le_refl _, fun _ _ _ => rfl⟩
theorem only_drewN {a w : World} {row : Option Nat} (h : a.grownBy w row) (n : Nat) : a.grownBy (w.drewN n) row := ⟨h.os, h.tape, h.output, h.size, h.block⟩
theorem only_drew {a w : World} {row : Option Nat} (h : a.grownBy w row) : a.grownBy w.drew row := ⟨h.os, h.tape, h.output, h.size, h.block⟩
theorem only_alloc {a w : World} {row : Option Nat} (h : a.grownBy w row) (o : Obj) : a.grownBy (w.alloc o) row :=
  ⟨h.os, h.tape, h.output, Nat.le_trans h.size (by simp), fun i hi hne => (Below.heap_alloc w o i (Nat.lt_of_lt_of_le hi h.size)).trans (h.block i hi hne)⟩
theorem only_setCell {a w : World} {g : Nat} (h : a.grownBy w (some g)) {p : Addr} (hp : p.block = g ∨ a.heap.size ≤ p.block) (u : Value) : a.grownBy (w.setCell p u) (some g) :=
  ⟨h.os, h.tape, h.output, by simpa [World.setCell] using h.size, fun i hi hne => (Below.heap_setCell w p u i (by
    rintro rfl
    rcases hp with hp | hp
    · exact hne (by rw [hp])
    · omega)).trans (h.block i hi hne)⟩
theorem only_of_below {a w : World} (h : Below a.heap.size a w) (row : Option Nat) : a.grownBy w row := ⟨h.os, h.tape, h.output, h.size, fun i hi _ => h.block i hi⟩
theorem only_trans {a b c : World} {row row2 : Option Nat} (h : a.grownBy b row) (k : b.grownBy c row2) (hr : ∀ g, row2 = some g → row = some g ∨ a.heap.size ≤ g) : a.grownBy c row :=
  ⟨k.os.trans h.os, k.tape.trans h.tape, k.output.trans h.output, Nat.le_trans h.size k.size, fun i hi hne => (k.block i (Nat.lt_of_lt_of_le hi h.size) (fun e => by
    rcases hr i e.symm with e' | e'
    · exact hne e'.symm
    · omega)).trans (h.block i hi hne)⟩

/-- What a call does that appends to the row of v and hands back v'. -/
structure Gr (w w' : World) (v v' : Value) : Prop where
  grown : w.grownBy w' v.ownBlock
  own : ∀ g, v'.ownBlock = some g → v.ownBlock = some g ∨ w.heap.size ≤ g
theorem Gr.below {B : Nat} {a w w' : World} {v v' : Value} (h : Gr w w' v v') (hb : Below B a w) (hB : B ≤ w.heap.size) (hv : ∀ k, v.ownBlock = some k → B ≤ k) : Below B a w' := hb.grown h.grown hB hv
theorem own_adrna {w : World} {base : Nat} {e : TypeId} {size : Nat} {v : Value} {n : Nat} {xs : List Value} (h : w.ownsRow base e size v n xs) (o1 : Obj) (k : Nat) (o2 : Obj) : (((w.alloc o1).drewN k).alloc o2).ownsRow base e size v n xs :=
  World.ownsRow.alloc (w := (w.alloc o1).drewN k) (h.alloc o1) o2
theorem own_app1 {w : World} {base : Nat} {e : TypeId} {v : Value} {xs : List Sp} {p q : Int} (h : w.ownsRow base e 2 v (xs.length + 1) (flat xs ++ [.int .i64 p, .int .i64 q])) : Own w base e v (xs ++ [(p, q)]) := by
  unfold Own
  rw [flat_app, List.length_append]
  exact h
theorem own_below {w w' : World} {base : Nat} {e : TypeId} {v : Value} {xs : List Sp} (h : Own w base e v xs) (hb : Below w.heap.size w w') : Own w' base e v xs :=
  h.kept (only_of_below hb none) (by cases hv : v.ownBlock <;> simp)
theorem Rd.tail {w : World} {B b o d : Nat} {s : Sp} {r : List Sp} (h : Rd w B (some ⟨b, o, none⟩) (s :: r)) (hd : (s :: r).length ≤ d) :
    Rd w B (if d = 1 then some ⟨b, o, none⟩ else some ⟨b, o + 2, none⟩) r := fun k hk => by
  simp only [List.length_cons] at hd
  rw [if_neg (by omega)]
  obtain ⟨b', o', e, hb, h1, h2⟩ := h (k + 1) (by simp; omega)
  injection e with e
  injection e with e1 e2
  subst e1; subst e2
  refine ⟨b, o + 2, rfl, hb, ?_, ?_⟩
  · rw [show o + 2 + k * 2 = o + (k + 1) * 2 from by omega]; simpa using h1
  · rw [show o + 2 + k * 2 + 1 = o + (k + 1) * 2 + 1 from by omega]; simpa using h2
theorem Rd.drewN {w : World} {B : Nat} {A : Option Addr} {xs : List Sp} (h : Rd w B A xs) (k : Nat) : Rd (w.drewN k) B A xs := h
theorem Own.drewN {w : World} {base : Nat} {e : TypeId} {v : Value} {xs : List Sp} (h : Own w base e v xs) (k : Nat) : Own (w.drewN k) base e v xs := h
end Go.Proofs.YtbdjpacmbaoaeaaDoor.S
