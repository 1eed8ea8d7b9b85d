/- What the walks of combine share. -/
import Derived.Test.YtdejdnkkbpmmlaaProg
import Derived.Test.YtdejdnkkbpmmlaaMSMove
import Derived.WalkKit
import Derived.WalkSpells
import Derived.WalkLawsBesides
import Derived.Lib.Hide
import Derived.Laws.OwnMore
import Derived.Deep.AppendLies
import Derived.Deep.Draws
import Derived.Deep.QuietTactic
import Derived.BigQuiet
import Derived.StillTailTactics
import Derived.Deep.RegionHeld3
namespace Go.Proofs.Ytdejdnkkbpmmlaa.S
open Go.RowKit

theorem Try.cells72 : Try.prog.cellsOf 72 = 2 := by kernel_rfl
theorem add_plain0 (b off i : Nat) : (⟨b, off, none⟩ : Addr).add i = ⟨b, off + i, none⟩ := by
  unfold Addr.add
  split <;> simp_all
/-- The slice value '.slice A n c' reads as the list of pairs xs, all of it below block B. -/
def Rd (w : World) (B : Nat) (A : Option Addr) (xs : List Sp) : Prop :=
  ∀ k (h : k < xs.length), ∃ b o, A = some ⟨b, o, none⟩ ∧ b < B ∧ w.cell? ⟨b, o + k * 2, none⟩ = some (.int .i64 xs[k].1) ∧ w.cell? ⟨b, o + k * 2 + 1, none⟩ = some (.int .i64 xs[k].2)

section
variable {w w' : World} {B B' : Nat} {A : Option Addr} {xs : List Sp}
theorem Rd.nil : Rd w B A [] := fun k h => absurd h (by simp)
theorem Rd.keep (h : Rd w B A xs) (hk : ∀ p : Addr, p.block < B → w'.cell? p = w.cell? p) : Rd w' B A xs := fun k hl => by
  obtain ⟨b, o, e, hb, h1, h2⟩ := h k hl
  exact ⟨b, o, e, hb, (hk _ hb).trans h1, (hk _ hb).trans h2⟩
theorem Rd.below (h : Rd w B A xs) (hb : Below B w w') : Rd w' B A xs := h.keep fun _ hp => hb.cell hp
theorem Rd.more (h : Rd w B A xs) (hB : B ≤ B') : Rd w B' A xs := fun k hl => by
  obtain ⟨b, o, e, hb, h1, h2⟩ := h k hl
  exact ⟨b, o, e, by omega, h1, h2⟩
end
theorem Try.info72 : (Try.prog.info? 72).map (fun i => (i.zero, i.size, i.bytes)) = some (some (.agg #[.int .i64 0, .int .i64 0]), 2, 16) := by kernel_rfl
/-- the cells of a list of pairs -/
def flat (xs : List Sp) : List Value := xs.flatMap fun s => [.int .i64 s.1, .int .i64 s.2]
theorem flat_nil : flat [] = [] := rfl
theorem flat_app (xs ys : List Sp) : flat (xs ++ ys) = flat xs ++ flat ys := by simp [flat]
theorem flat_one (s : Sp) : flat [s] = [.int .i64 s.1, .int .i64 s.2] := rfl
theorem flat_cons (s : Sp) (xs : List Sp) : flat (s :: xs) = .int .i64 s.1 :: .int .i64 s.2 :: flat xs := rfl
theorem flat_get (xs : List Sp) (k : Nat) (h : k < xs.length) : (flat xs)[k * 2]? = some (.int .i64 xs[k].1) ∧ (flat xs)[k * 2 + 1]? = some (.int .i64 xs[k].2) := by
  induction xs generalizing k with
  | nil => simp at h
  | cons s r ih =>
    cases k with
    | zero => simp [flat_cons]
    | succ k =>
      have h' : k < r.length := by simpa using h
      have e : (k + 1) * 2 = k * 2 + 1 + 1 := by omega
      rw [flat_cons, e, List.getElem?_cons_succ, List.getElem?_cons_succ, List.getElem?_cons_succ, List.getElem?_cons_succ]
      simpa using ih k h'
theorem take_snoc (xs : List Sp) (k : Nat) (h : k < xs.length) : xs.take (k + 1) = xs.take k ++ [xs[k]] := by
  rw [List.take_succ_eq_append_getElem h]

/-- The slice value v is nil, or a row of the call's own (blocks from base on), and holds xs. -/
def Own (w : World) (base : Nat) (e : TypeId) (v : Value) (xs : List Sp) : Prop := w.ownsRow base e 2 v xs.length (flat xs)
theorem Own.rd {w : World} {base : Nat} {e : TypeId} {v : Value} {xs : List Sp} (h : Own w base e v xs) :
    ∃ A c, v = .slice A xs.length c ∧ xs.length ≤ c ∧ Rd w w.heap.size A xs := by
  rcases h.2 with ⟨hv, hn⟩ | ⟨g, cap, cur, hv, hb, hg, hnc, hcm, hcs, ht⟩
  · have : xs = [] := List.eq_nil_of_length_eq_zero hn
    subst this
    exact ⟨none, 0, hv, Nat.le_refl _, Rd.nil⟩
  · refine ⟨_, _, hv, hnc, fun k hk => ⟨g, 0, rfl, ?_, ?_, ?_⟩⟩
    · exact (Array.getElem?_eq_some_iff.1 hg).1
    · have := h.cells (g := g) (by rw [hv]; rfl) (k * 2) _ (flat_get xs k hk).1
      rwa [add_plain0] at this
    · have := h.cells (g := g) (by rw [hv]; rfl) (k * 2 + 1) _ (flat_get xs k hk).2
      rwa [add_plain0] at this
theorem Own.rdf {w : World} {base : Nat} {e : TypeId} {v : Value} {xs : List Sp} (h : Own w base e v xs) :
    ∃ A c, v = .slice A xs.length c ∧ xs.length ≤ c ∧ Rd w w.heap.size A xs ∧ ∀ a, A = some a → base ≤ a.block := by
  obtain ⟨A, c, hv, hc, hr⟩ := h.rd
  refine ⟨A, c, hv, hc, hr, fun a ha => ?_⟩
  subst ha
  rcases h.2 with ⟨hv2, _⟩ | ⟨g, cap, cur, hv2, hb, _⟩
  · rw [hv] at hv2; injection hv2 with e; cases e
  · rw [hv] at hv2; injection hv2 with e; cases e; exact hb
theorem below_drewN {B : Nat} {a w : World} (h : Below B a w) (n : Nat) : Below B a (w.drewN n) := ⟨h.os, h.tape, h.output, h.size, h.block⟩
theorem ret_bool {a b : Bool} (h : a = b) : Ending.returned (.bool a) = .returned (.bool b) := by rw [h]
theorem ret_int {k : IntKind} {a b : Int} (h : a = b) : Ending.returned (.int k a) = .returned (.int k b) := by rw [h]

theorem flat_len (xs : List Sp) : (flat xs).length = xs.length * 2 := by
  induction xs with
  | nil => rfl
  | cons s r ih => rw [flat_cons]; simp [ih]; omega
theorem flat_set2 (xs : List Sp) (k : Nat) (h : k < xs.length) (a b : Int) (ha : xs[k].1 = a) : (flat xs).set (k * 2 + 1) (.int .i64 b) = flat (xs.set k (a, b)) := by
  induction xs generalizing k with
  | nil => simp at h
  | cons s r ih =>
    cases k with
    | zero => subst ha; simp [flat_cons]
    | succ k =>
      have h' : k < r.length := by simpa using h
      have e : (k + 1) * 2 + 1 = k * 2 + 1 + 1 + 1 := by omega
      rw [flat_cons, e, List.set_cons_succ, List.set_cons_succ, List.set_cons_succ, flat_cons, ih k h' (by simpa using ha)]

theorem only_refl (w : World) (row : Option Nat) : w.grownBy w row := ⟨rfl, rfl, rfl, Nat.le_refl _, fun _ _ _ => rfl⟩
theorem only_drewN {a w : World} {row : Option Nat} (h : a.grownBy w row) (n : Nat) : a.grownBy (w.drewN n) row := ⟨h.os, h.tape, h.output, h.size, h.block⟩
theorem only_drew {a w : World} {row : Option Nat} (h : a.grownBy w row) : a.grownBy w.drew row := ⟨h.os, h.tape, h.output, h.size, h.block⟩
theorem only_alloc {a w : World} {row : Option Nat} (h : a.grownBy w row) (o : Obj) : a.grownBy (w.alloc o) row :=
  ⟨h.os, h.tape, h.output, Nat.le_trans h.size (by simp), fun i hi hne => (Below.heap_alloc w o i (Nat.lt_of_lt_of_le hi h.size)).trans (h.block i hi hne)⟩
theorem only_setCell {a w : World} {g : Nat} (h : a.grownBy w (some g)) {p : Addr} (hp : p.block = g ∨ a.heap.size ≤ p.block) (u : Value) : a.grownBy (w.setCell p u) (some g) :=
  ⟨h.os, h.tape, h.output, by simpa [World.setCell] using h.size, fun i hi hne => (Below.heap_setCell w p u i (by
    rintro rfl
    rcases hp with hp | hp
    · exact hne (by rw [hp])
    · omega)).trans (h.block i hi hne)⟩
theorem only_of_below {a w : World} (h : Below a.heap.size a w) (row : Option Nat) : a.grownBy w row := ⟨h.os, h.tape, h.output, h.size, fun i hi _ => h.block i hi⟩
theorem only_trans {a b c : World} {row row2 : Option Nat} (h : a.grownBy b row) (k : b.grownBy c row2) (hr : ∀ g, row2 = some g → row = some g ∨ a.heap.size ≤ g) : a.grownBy c row :=
  ⟨k.os.trans h.os, k.tape.trans h.tape, k.output.trans h.output, Nat.le_trans h.size k.size, fun i hi hne => (k.block i (Nat.lt_of_lt_of_le hi h.size) (fun e => by
    rcases hr i e.symm with e' | e'
    · exact hne e'.symm
    · omega)).trans (h.block i hi hne)⟩

/-- What a call does that appends to the row of v and hands back v'. -/
structure Gr (w w' : World) (v v' : Value) : Prop where
  grown : w.grownBy w' v.ownBlock
  own : ∀ g, v'.ownBlock = some g → v.ownBlock = some g ∨ w.heap.size ≤ g
theorem Gr.below {B : Nat} {a w w' : World} {v v' : Value} (h : Gr w w' v v') (hb : Below B a w) (hB : B ≤ w.heap.size) (hv : ∀ k, v.ownBlock = some k → B ≤ k) : Below B a w' := hb.grown h.grown hB hv
theorem own_adrna {w : World} {base : Nat} {e : TypeId} {size : Nat} {v : Value} {n : Nat} {xs : List Value} (h : w.ownsRow base e size v n xs) (o1 : Obj) (k : Nat) (o2 : Obj) : (((w.alloc o1).drewN k).alloc o2).ownsRow base e size v n xs :=
  World.ownsRow.alloc (w := (w.alloc o1).drewN k) (h.alloc o1) o2
theorem own_app1 {w : World} {base : Nat} {e : TypeId} {v : Value} {xs : List Sp} {p q : Int} (h : w.ownsRow base e 2 v (xs.length + 1) (flat xs ++ [.int .i64 p, .int .i64 q])) : Own w base e v (xs ++ [(p, q)]) := by
  unfold Own
  rw [flat_app, List.length_append]
  exact h
theorem own_below {w w' : World} {base : Nat} {e : TypeId} {v : Value} {xs : List Sp} (h : Own w base e v xs) (hb : Below w.heap.size w w') : Own w' base e v xs :=
  h.kept (only_of_below hb none) (by cases hv : v.ownBlock <;> simp)
theorem Rd.tail {w : World} {B b o d : Nat} {s : Sp} {r : List Sp} (h : Rd w B (some ⟨b, o, none⟩) (s :: r)) (hd : (s :: r).length ≤ d) :
    Rd w B (if d = 1 then some ⟨b, o, none⟩ else some ⟨b, o + 2, none⟩) r := fun k hk => by
  simp only [List.length_cons] at hd
  rw [if_neg (by omega)]
  obtain ⟨b', o', e, hb, h1, h2⟩ := h (k + 1) (by simp; omega)
  injection e with e
  injection e with e1 e2
  subst e1; subst e2
  refine ⟨b, o + 2, rfl, hb, ?_, ?_⟩
  · rw [show o + 2 + k * 2 = o + (k + 1) * 2 from by omega]; simpa using h1
  · rw [show o + 2 + k * 2 + 1 = o + (k + 1) * 2 + 1 from by omega]; simpa using h2
theorem Rd.drewN {w : World} {B : Nat} {A : Option Addr} {xs : List Sp} (h : Rd w B A xs) (k : Nat) : Rd (w.drewN k) B A xs := h
theorem Own.drewN {w : World} {base : Nat} {e : TypeId} {v : Value} {xs : List Sp} (h : Own w base e v xs) (k : Nat) : Own (w.drewN k) base e v xs := h
end Go.Proofs.Ytdejdnkkbpmmlaa.S

namespace Go.Proofs.Ytdejdnkkbpmmlaa.S
open Go.RowKit
set_option maxRecDepth 100000 in
set_option maxHeartbeats 400000 in
theorem check_any (A : Option Addr) (c : Nat) (xs : List Sp) (w : World) (hr : Rd w w.heap.size A xs) (hl : xs.length ≤ 4611686018427387904) :
    Calls Try.prog 54 #[.slice A xs.length c] w fun e w' => e = .returned (.int .i64 (chk xs)) ∧ Below w.heap.size w w' := by
  unfold chk
  by_cases hlen : 4096 < xs.length
  · rw [if_pos hlen]
    go_enter Try.func54, Try.ntmps54
    go_wp2
    go_ret
    exact ⟨rfl, Below.refl _ _⟩
  · rw [if_neg hlen]
    go_enter Try.func54, Try.ntmps54
    go_wp2
    go_loopw [3, 11] (fun l i wr => ∃ (k : Nat) (last : Int), k ≤ xs.length ∧ i = .int .i64 k ∧ l = .int .i64 last ∧ chkFrom (-1) xs = chkFrom last (xs.drop k) ∧ Below w.heap.size w wr) (fun _ i _ => xs.length - (intOf i).toNat)
    case atStart => exact ⟨0, -1, Nat.zero_le _, rfl, rfl, rfl, Below.refl _ _⟩
    case round =>
      obtain ⟨k, last, hk, rfl, rfl, hc, hb⟩ := hrel
      by_cases hlt : k < xs.length
      · have hs := chkFrom_drop (last := last) hlt
        rw [hs] at hc
        have HC := Lib.hid hc; clear hc hs
        obtain ⟨b, o, hA, hbl, c0, c1⟩ := hr.below hb k hlt
        subst hA
        generalize xs[k] = s at *
        obtain ⟨p, q⟩ := s
        go_wp2
        all_goals first
          | (go_ret; exact ⟨ret_int (by rw [HC.out, if_pos (by omega)]), hb.alloc hb.size _⟩)
          | (go_ret; exact ⟨ret_int (by rw [HC.out, if_neg (by omega), if_pos (by omega)]), hb.alloc hb.size _⟩)
          | (go_roundw
             case rel => exact ⟨k + 1, q, by omega, by go_num, rfl, by rw [HC.out, if_neg (by omega), if_neg (by omega)], hb.alloc hb.size _⟩
             case measure => simp [intOf]; omega)
      · go_wp2
        go_ret
        exact ⟨ret_int (by rw [hc, chkFrom_end (by omega)]), hb⟩
end Go.Proofs.Ytdejdnkkbpmmlaa.S

namespace Go.Proofs.Ytdejdnkkbpmmlaa.S
open Go.RowKit

theorem cell2_new0 (w : World) (a b : Value) (t : TypeId) : (w.alloc (.cells #[a, b] t)).cell? ⟨w.heap.size, 0, none⟩ = some a := by
  rw [cell_of_row _ _ _ _ _ (0, 0) (heap_alloc_new w _)]; rfl
theorem cell2_new1 (w : World) (a b : Value) (t : TypeId) : (w.alloc (.cells #[a, b] t)).cell? ⟨w.heap.size, 1, none⟩ = some b := by
  rw [cell_of_row _ _ _ _ _ (0, 0) (heap_alloc_new w _)]; rfl
set_option maxRecDepth 100000 in
set_option maxHeartbeats 800000 in
theorem add_no (v : Value) (p q : Int) (w : World) (h : q ≤ p) :
    Calls Try.prog 56 #[v, .agg #[.int .i64 p, .int .i64 q]] w fun e w' => e = .returned v ∧ Below w.heap.size w w' := by
  go_enter Try.func56, Try.ntmps56
  go_wp2
  go_ret
  exact ⟨rfl, (Below.refl _ _).alloc (Nat.le_refl _) _⟩

set_option maxRecDepth 100000 in
set_option maxHeartbeats 800000 in
theorem add_join (base : Nat) (g cap : Nat) (l : List Sp) (p q tp tq : Int) (w : World) (ho : Own w base 72 (.slice (some ⟨g, 0, none⟩) l.length cap) l) (hlt : g < w.heap.size) (h : p < q) (hn : 0 < l.length) (hl : l.length ≤ 2000000000)
    (ht : l.getD (l.length - 1) (0, 0) = (tp, tq)) (h2 : p ≤ tq) :
    Calls Try.prog 56 #[.slice (some ⟨g, 0, none⟩) l.length cap, .agg #[.int .i64 p, .int .i64 q]] w fun e w' => e = .returned (.slice (some ⟨g, 0, none⟩) l.length cap) ∧
      Own w' base 72 (.slice (some ⟨g, 0, none⟩) l.length cap) (l.set (l.length - 1) (tp, q)) ∧ w.grownBy w' (some g) := by
  have hk : l.length - 1 < l.length := by omega
  have hlk : l[l.length - 1] = (tp, tq) := by rw [← ht]; simp [List.getD, List.getElem?_eq_getElem hk]
  obtain ⟨f1, f2⟩ := flat_get l (l.length - 1) hk
  rw [hlk] at f1 f2
  have hc := ho.cellAt ((l.length - 1) * 2 + 1) (by omega)
  rw [f2] at hc
  have hf := ho.frozenAt ((l.length - 1) * 2 + 1)
  have hs := ((ho : w.ownsRow _ _ _ _ _ _).alloc (.cells #[.int .i64 p, .int .i64 q] 72)).stored ((l.length - 1) * 2 + 1) (.int .i64 q)
  rw [flat_set2 l _ hk tp q (by rw [hlk])] at hs
  clear f1 f2 hlk ht
  have hx0 : (0 : Int) ≤ (l.length : Int) - 1 := by omega
  have hx1 : (l.length : Int) - 1 < (l.length : Int) := by omega
  have hd1 : decide ((1 : Int) ≤ (l.length : Int)) = true := by simp; omega
  go_enter Try.func56, Try.ntmps56
  go_wp2
  go_quiet (fail)
  go_wp2
  go_ret
  exact ⟨rfl, by unfold Own; rw [List.length_set]; exact hs.1, only_setCell (only_drewN (only_alloc (only_refl _ _) _) _) (.inl rfl) _⟩

set_option maxRecDepth 100000 in
set_option maxHeartbeats 800000 in
theorem add_app (base : Nat) (A : Option Addr) (cap : Nat) (l : List Sp) (p q : Int) (w : World) (ho : Own w base 72 (.slice A l.length cap) l) (hB : base ≤ w.heap.size) (h : p < q) (hn : 0 < l.length) (hl : l.length ≤ 2000000000)
    (h2 : (l.getD (l.length - 1) (0, 0)).2 < p) :
    Calls Try.prog 56 #[.slice A l.length cap, .agg #[.int .i64 p, .int .i64 q]] w fun e w' => ∃ v', e = .returned v' ∧ Own w' base 72 v' (l ++ [(p, q)]) ∧ Gr w w' (.slice A l.length cap) v' := by
  obtain ⟨i0, hi0, hz0, hz1, hz2⟩ := info_parts Try.info72
  obtain ⟨g, cap', hv, hbg, hlt⟩ := ho.form hn
  simp only [Value.slice.injEq, true_and] at hv
  obtain ⟨rfl, rfl⟩ := hv
  have hk : l.length - 1 < l.length := by omega
  obtain ⟨f1, f2⟩ := flat_get l (l.length - 1) hk
  rw [show l.getD (l.length - 1) (0, 0) = l[l.length - 1] from by simp [List.getD, List.getElem?_eq_getElem hk]] at h2
  have hc := ho.cellAt ((l.length - 1) * 2 + 1) (by omega)
  rw [f2] at hc
  clear f1 f2
  generalize l[l.length - 1] = t at *
  obtain ⟨tp, tq⟩ := t
  simp only at h2 hc
  have hx0 : (0 : Int) ≤ (l.length : Int) - 1 := by omega
  have hx1 : (l.length : Int) - 1 < (l.length : Int) := by omega
  have hd1 : decide ((1 : Int) ≤ (l.length : Int)) = true := by simp; omega
  go_enter Try.func56, Try.ntmps56
  go_wp2
  go_quiet (fail)
  go_wp2_with (
    at_builtin
    refine wpList_append_lies _ rfl (.tmp 34) (.tmp 36) _ rfl base 72 i0 _ 2 16 Try.underlying30 hi0 hz0 hz1 hz2 rfl (by omega) (.slice (some ⟨g, 0, none⟩) l.length cap) l.length (flat l) rfl (own_adrna ho _ _ _)
      ⟨w.heap.size + 1, 0, none⟩ 1 1 [.int .i64 p, .int .i64 q] rfl rfl (World.news_of_block (cs := #[.int .i64 p, .int .i64 q]) (t := 72) (fr := (0, 0)) (by have := heap_alloc_new ((w.alloc (.cells #[.int .i64 p, .int .i64 q] 72)).drewN nq) (.cells #[.int .i64 p, .int .i64 q] 72); simpa using this)) (by simp [Value.oneCell'])
      (by omega) (by simp [maxLen]; omega) (by omega) (by simp; omega) (w.heap.size + 2) (by simp) ?_
    intro gg cap2 w1 hown1 hgrow hat hlt1)
  go_ret
  exact ⟨_, rfl, own_app1 hown1, ⟨only_trans (only_alloc (only_drewN (only_alloc (only_refl _ _) _) _) _) hgrow (fun _ h => .inl h), fun g' hg' => by
    rcases hat with e | e
    · left; rw [e]; exact hg'
    · right; simp [Value.ownBlock] at hg'; omega⟩⟩

set_option maxRecDepth 100000 in
set_option maxHeartbeats 800000 in
theorem add_first (base : Nat) (A : Option Addr) (cap : Nat) (p q : Int) (w : World) (ho : Own w base 72 (.slice A 0 cap) []) (hB : base ≤ w.heap.size) (h : p < q) :
    Calls Try.prog 56 #[.slice A 0 cap, .agg #[.int .i64 p, .int .i64 q]] w fun e w' => ∃ v', e = .returned v' ∧ Own w' base 72 v' [(p, q)] ∧ Gr w w' (.slice A 0 cap) v' := by
  obtain ⟨i0, hi0, hz0, hz1, hz2⟩ := info_parts Try.info72
  go_enter Try.func56, Try.ntmps56
  go_wp2
  go_quiet (fail)
  go_wp2_with (
    at_builtin
    refine wpList_append_lies _ rfl (.tmp 34) (.tmp 36) _ rfl base 72 i0 _ 2 16 Try.underlying30 hi0 hz0 hz1 hz2 rfl (by omega) (.slice A 0 cap) 0 [] rfl (own_adrna ho _ _ _)
      ⟨w.heap.size + 1, 0, none⟩ 1 1 [.int .i64 p, .int .i64 q] rfl rfl (World.news_of_block (cs := #[.int .i64 p, .int .i64 q]) (t := 72) (fr := (0, 0)) (by have := heap_alloc_new ((w.alloc (.cells #[.int .i64 p, .int .i64 q] 72)).drewN nq) (.cells #[.int .i64 p, .int .i64 q] 72); simpa using this)) (by simp [Value.oneCell'])
      (by omega) (by simp [maxLen]) (by omega) (by simp; omega) (w.heap.size + 2) (by simp) ?_
    intro gg cap2 w1 hown1 hgrow hat hlt1)
  go_ret
  exact ⟨_, rfl, own_app1 (xs := []) (by simpa [flat_nil] using hown1), ⟨only_trans (only_alloc (only_drewN (only_alloc (only_refl _ _) _) _) _) hgrow (fun _ h => .inl h), fun g' hg' => by
    rcases hat with e | e
    · left; rw [e]; exact hg'
    · right; simp [Value.ownBlock] at hg'; omega⟩⟩

theorem add_any (base : Nat) (v : Value) (l : List Sp) (p q : Int) (w : World) (ho : Own w base 72 v l) (hB : base ≤ w.heap.size) (hl : l.length ≤ 2000000000) :
    Calls Try.prog 56 #[v, .agg #[.int .i64 p, .int .i64 q]] w fun e w' => ∃ v', e = .returned v' ∧ Own w' base 72 v' (addS l (p, q)) ∧ Gr w w' v v' := by
  by_cases h : q ≤ p
  · rw [addS_no h]
    refine (add_no v p q w h).mono ?_
    rintro e w' ⟨rfl, hb⟩
    exact ⟨v, rfl, own_below ho hb, ⟨only_of_below hb _, fun g hg => .inl hg⟩⟩
  · obtain ⟨A, c, rfl, hc, _⟩ := ho.rd
    rcases Nat.eq_zero_or_pos l.length with h0 | h0
    · obtain rfl := List.eq_nil_of_length_eq_zero h0
      rw [addS_app (t := (0, 0)) (by simp; omega) rfl (.inl rfl)]
      exact add_first base A c p q w ho hB (by omega)
    · rcases ht : l.getD (l.length - 1) (0, 0) with ⟨tp, tq⟩
      by_cases h2 : p ≤ tq
      · rw [addS_join (by simp; omega) h0 ht h2]
        obtain ⟨g, cap', hv, hbg, hlt⟩ := ho.form h0
        simp only [Value.slice.injEq, true_and] at hv
        obtain ⟨rfl, rfl⟩ := hv
        refine (add_join base g c l p q tp tq w ho hlt (by omega) h0 hl ht h2).mono ?_
        rintro e w' ⟨rfl, ho', hg⟩
        exact ⟨_, rfl, ho', ⟨hg, fun g' hg' => .inl hg'⟩⟩
      · rw [addS_app (by simp; omega) ht (by simp; omega)]
        exact add_app base A c l p q w ho hB (by omega) h0 hl (by rw [ht]; simp; omega)
end Go.Proofs.Ytdejdnkkbpmmlaa.S

namespace Go.Proofs.Ytdejdnkkbpmmlaa.S
open Go.RowKit

set_option maxRecDepth 100000 in
set_option maxHeartbeats 400000 in
theorem clip_any (A : Option Addr) (n c : Nat) (w : World) (hn : n ≤ c) :
    Calls Try.prog 68 #[.slice A n c] w fun e w' => e = .returned (.slice A n n) ∧ w = w' := by
  have h1 : (0 : Int) ≤ (n : Int) := Int.natCast_nonneg _
  have h2 : (n : Int) ≤ (c : Int) := by omega
  go_enter Try.func68, Try.ntmps68
  go_wp2
  go_ret
  exact ⟨rfl, rfl⟩

set_option maxRecDepth 100000 in
set_option maxHeartbeats 400000 in
theorem within_any (x : Int) (w : World) :
    Calls Try.prog 55 #[.int .i64 x] w fun e w' => e = .returned (.bool (okP x)) ∧ w = w' := by
  by_cases h1 : 0 ≤ x
  · by_cases h2 : x ≤ 1073741824
    · go_enter Try.func55, Try.ntmps55
      go_wp2
      go_ret
      exact ⟨ret_bool (okP_t h1 h2).symm, rfl⟩
    · have : decide (x ≤ 1073741824) = false := by simp; omega
      go_enter Try.func55, Try.ntmps55
      go_wp2
      go_ret
      exact ⟨ret_bool (okP_f (by omega)).symm, rfl⟩
  · have : decide (0 ≤ x) = false := by simp; omega
    go_enter Try.func55, Try.ntmps55
    go_wp2
    go_ret
    exact ⟨ret_bool (okP_f (by omega)).symm, rfl⟩

set_option maxRecDepth 100000 in
set_option maxHeartbeats 400000 in
theorem result_ok (A : Option Addr) (n c : Nat) (w : World) (hn : n ≤ c) (h4 : n ≤ 4096) :
    Calls Try.prog 57 #[.slice A n c] w fun e w' => e = .returned (.tuple #[.slice A n n, .int .i64 0]) ∧ w = w' := by
  go_enter Try.func57, Try.ntmps57
  go_wp2_with (go_at_call 68; refine (clip_any _ _ _ _ hn).mono ?_; rintro e w1 ⟨rfl, rfl⟩)
  go_ret2
  exact ⟨rfl, rfl⟩
set_option maxRecDepth 100000 in
set_option maxHeartbeats 400000 in
theorem result_no (A : Option Addr) (n c : Nat) (w : World) (hn : n ≤ 4611686018427387904) (h4 : 4096 < n) :
    Calls Try.prog 57 #[.slice A n c] w fun e w' => e = .returned (.tuple #[.slice none 0 0, .int .i64 3]) ∧ w = w' := by
  go_enter Try.func57, Try.ntmps57
  go_wp2
  go_ret2
  exact ⟨rfl, rfl⟩

set_option maxRecDepth 100000 in
set_option maxHeartbeats 400000 in
theorem stretch_nil (A : Option Addr) (c : Nat) (at_ : Int) (w : World) :
    Calls Try.prog 70 #[.slice A 0 c, .int .i64 at_] w fun e w' => e = .returned (.tuple #[.bool false, .int .i64 1073741824]) ∧ w = w' := by
  go_enter Try.func70, Try.ntmps70
  go_wp2
  go_ret2
  exact ⟨rfl, rfl⟩
theorem ret_bi {a b : Bool} {x y : Int} (h : a = b) (h2 : x = y) : Ending.returned (.tuple #[.bool a, .int .i64 x]) = .returned (.tuple #[.bool b, .int .i64 y]) := by rw [h, h2]
set_option maxRecDepth 100000 in
set_option maxHeartbeats 400000 in
theorem stretch_cons (b o n c : Nat) (at_ p q : Int) (r : List Sp) (w : World) (hn : 0 < n) (hl : n ≤ 4611686018427387904) (c0 : w.cell? ⟨b, o, none⟩ = some (.int .i64 p)) (c1 : w.cell? ⟨b, o + 1, none⟩ = some (.int .i64 q)) :
    Calls Try.prog 70 #[.slice (some ⟨b, o, none⟩) n c, .int .i64 at_] w fun e w' => e = .returned (.tuple #[.bool (strIn ((p, q) :: r) at_), .int .i64 (strEnd ((p, q) :: r) at_)]) ∧ ∃ k, w' = w.drewN k := by
  have hn0 : ((n : Int) == 0) = false := by simp; omega
  have hn1 : (0 : Int) < (n : Int) := by omega
  by_cases h : at_ < p
  · have h1 := Lib.hid (strIn_lt (s := (p, q)) (r := r) h)
    have h2 := Lib.hid (strEnd_lt (s := (p, q)) (r := r) h)
    go_enter Try.func70, Try.ntmps70
    go_wp2
    go_quiet (fail)
    go_wp2
    go_ret2
    exact ⟨ret_bi h1.out.symm h2.out.symm, _, rfl⟩
  · have h1 := Lib.hid (strIn_ge (s := (p, q)) (r := r) (a := at_) (by simp; omega))
    have h2 := Lib.hid (strEnd_ge (s := (p, q)) (r := r) (a := at_) (by simp; omega))
    go_enter Try.func70, Try.ntmps70
    go_wp2
    go_quiet (fail)
    go_wp2
    go_ret2
    exact ⟨ret_bi h1.out.symm h2.out.symm, _, rfl⟩
theorem stretch_any (A : Option Addr) (B c : Nat) (at_ : Int) (xs : List Sp) (w : World) (hr : Rd w B A xs) (hl : xs.length ≤ 4611686018427387904) :
    Calls Try.prog 70 #[.slice A xs.length c, .int .i64 at_] w fun e w' => e = .returned (.tuple #[.bool (strIn xs at_), .int .i64 (strEnd xs at_)]) ∧ ∃ k, w' = w.drewN k := by
  cases xs with
  | nil => exact (stretch_nil A c at_ w).mono fun e w' ⟨he, hw⟩ => ⟨he, 0, hw.symm⟩
  | cons s r =>
    obtain ⟨b, o, rfl, _, c0, c1⟩ := hr 0 (by simp)
    simp only [Nat.zero_mul, Nat.add_zero, List.getElem_cons_zero] at c0 c1
    exact stretch_cons b o _ c at_ s.1 s.2 r w (by simp) hl c0 c1
/-- what a call hands back that makes the set with the places m: the list that the set has, or 'too many spans' -/
def SetRes (B0 : Nat) (m : Int → Bool) (e : Ending) (w' : World) : Prop :=
  ∃ out : List Sp, Val (-1) out ∧ (∀ i, hasB out i = m i) ∧
    ((out.length ≤ 4096 ∧ ∃ A, e = .returned (.tuple #[.slice A out.length out.length, .int .i64 0]) ∧ Rd w' w'.heap.size A out ∧ ∀ a, A = some a → B0 ≤ a.block) ∨
     (4096 < out.length ∧ e = .returned (.tuple #[.slice none 0 0, .int .i64 3])))
end Go.Proofs.Ytdejdnkkbpmmlaa.S

namespace Go.Proofs.Ytdejdnkkbpmmlaa.S
open Go.RowKit
def lenV : Value → Nat
  | .slice _ n _ => n
  | _ => 0
/-- what each round of the sweep makes less -/
def measC (a b : Nat) (t : Int) : Nat := (a + b) * 1073741826 + (1073741825 - t.toNat)
theorem meas_lt {a b : Nat} {t E : Int} (h0 : 0 ≤ t) (h : t < E) (hE : E ≤ 1073741824) : measC a b E < measC a b t := by unfold measC; omega
theorem meas_a {a b a' : Nat} {t : Int} (h : 0 < a) (e : a' = a - 1) : measC a' b t < measC a b t := by unfold measC; omega
theorem meas_b {a b b' : Nat} {t : Int} (h : 0 < b) (e : b' = b - 1) : measC a b' t < measC a b t := by unfold measC; omega
theorem notat {ys : List Sp} {t : Int} (h : ys = [] ∨ ∃ s r, ys = s :: r ∧ s.2 ≠ t) : ∀ s r, ys = s :: r → s.2 ≠ t := by
  rintro s r rfl
  rcases h with h | ⟨s', r', h, hn⟩
  · cases h
  · cases h; exact hn
theorem hpop_cases (ya yb : List Sp) (t : Int) : (∃ s r, ya = s :: r ∧ s.2 = t) ∨ ((ya = [] ∨ ∃ s r, ya = s :: r ∧ s.2 ≠ t) ∧ ((∃ s r, yb = s :: r ∧ s.2 = t) ∨ (ya = [] ∧ yb = []) ∨
    ((yb = [] ∨ ∃ s r, yb = s :: r ∧ s.2 ≠ t) ∧ ¬ (ya = [] ∧ yb = [])))) := by
  rcases ya with _ | ⟨s, r⟩ <;> rcases yb with _ | ⟨s', r'⟩
  · exact .inr ⟨.inl rfl, .inr (.inl ⟨rfl, rfl⟩)⟩
  · by_cases h : s'.2 = t
    · exact .inr ⟨.inl rfl, .inl ⟨_, _, rfl, h⟩⟩
    · exact .inr ⟨.inl rfl, .inr (.inr ⟨.inr ⟨_, _, rfl, h⟩, by simp⟩)⟩
  · by_cases h : s.2 = t
    · exact .inl ⟨_, _, rfl, h⟩
    · exact .inr ⟨.inr ⟨_, _, rfl, h⟩, .inr (.inr ⟨.inl rfl, by simp⟩)⟩
  · by_cases h : s.2 = t
    · exact .inl ⟨_, _, rfl, h⟩
    · by_cases h' : s'.2 = t
      · exact .inr ⟨.inr ⟨_, _, rfl, h⟩, .inl ⟨_, _, rfl, h'⟩⟩
      · exact .inr ⟨.inr ⟨_, _, rfl, h⟩, .inr (.inr ⟨.inr ⟨_, _, rfl, h'⟩, by simp⟩)⟩
end Go.Proofs.Ytdejdnkkbpmmlaa.S
