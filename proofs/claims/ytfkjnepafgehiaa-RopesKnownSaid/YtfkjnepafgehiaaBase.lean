/- Words for memory: a rope's tree of nodes; the smallest functions. -/
import Derived.Test.YtfkjnepafgehiaaProg
import Derived.Test.YtfkjnepafgehiaaTree
import Derived.WalkKit
import Derived.WalkSpells
import Derived.WalkLawsBesides
import Derived.Lib.Hide
import Derived.Laws.OwnMore
import Derived.Deep.AppendLies
import Derived.Deep.Draws
import Derived.Deep.QuietTactic
import Derived.BigQuiet
import Derived.StillTailTactics
import Derived.Deep.RegionHeld3
import Derived.OneCell
import Derived.Outline
namespace Go.Proofs.Ytfkjnepafgehiaa
open Go.RowKit

/-- The tree lies in memory, and this leads to its root. -/
def Nd (w : World) : T → Option Addr → Prop
  | .nil, p => p = none
  | .node l s r, p => ∃ b pl pr, p = some ⟨b, 0, none⟩ ∧
      w.heap[b]? = some (.cells #[.int .i64 l.count, .int .i64 l.total, .int .i64 l.depth, .pointer pl, .int .i64 s, .int .i64 r.count, .int .i64 r.total, .int .i64 r.depth, .pointer pr] 75 (0, 0)) ∧ Nd w l pl ∧ Nd w r pr
theorem heap_lt {w : World} {b : Nat} {o : Obj} (h : w.heap[b]? = some o) : b < w.heap.size := by
  rcases Nat.lt_or_ge b w.heap.size with hlt | hge
  · exact hlt
  · rw [Array.getElem?_eq_none hge] at h; cases h
theorem Nd.below {w w' : World} (hb : Below w.heap.size w w') : ∀ {t : T} {p : Option Addr}, Nd w t p → Nd w' t p
  | .nil, _, h => h
  | .node _ _ _, _, ⟨b, pl, pr, e, h, hl, hr⟩ => ⟨b, pl, pr, e, (hb.block b (heap_lt h)).trans h, Nd.below hb hl, Nd.below hb hr⟩
theorem Nd.drewN {w : World} (n : Nat) {t : T} {p : Option Addr} (h : Nd w t p) : Nd (w.drewN n) t p := h.below (by exact ⟨rfl, rfl, rfl, Nat.le_refl _, fun _ _ => rfl⟩)

/-- A rope is returned. -/
def Gives (P : T → Prop) (w : World) (e : Ending) (w' : World) : Prop :=
  ∃ t p, P t ∧ e = .returned (.agg #[.int .i64 t.count, .int .i64 t.total, .int .i64 t.depth, .pointer p]) ∧ Nd w' t p ∧ Below w.heap.size w w'

theorem max_nat (a b : Nat) : (if (a : Int) < b then (b : Int) else (a : Int)) = ((max a b : Nat) : Int) := by
  rcases Nat.lt_or_ge a b with h | h
  · rw [if_pos (by omega), Nat.max_eq_right (by omega)]
  · rw [if_neg (by omega), Nat.max_eq_left h]

/-- a block that has just been made -/
theorem new_at {w : World} {o : Obj} (g : Nat) (h : w.heap.size = g) : (w.alloc o).heap[g]? = some o := h ▸ heap_alloc_new w o
theorem gives_node {l r : T} {s : Int} {pl pr : Option Addr} {w w' : World} {b : Nat} {e : Ending} {c x d : Int} (hl : Nd w l pl) (hr : Nd w r pr) (hb : Below w.heap.size w w')
    (he : e = .returned (.agg #[.int .i64 c, .int .i64 x, .int .i64 d, .pointer (some ⟨b, 0, none⟩)])) (hc : c = ((T.node l s r).count : Nat)) (hx : x = (T.node l s r).total) (hd : d = ((T.node l s r).depth : Nat))
    (hh : w'.heap[b]? = some (.cells #[.int .i64 l.count, .int .i64 l.total, .int .i64 l.depth, .pointer pl, .int .i64 s, .int .i64 r.count, .int .i64 r.total, .int .i64 r.depth, .pointer pr] 75 (0, 0))) :
    Gives (· = T.node l s r) w e w' := by
  subst hc; subst hx; subst hd
  exact ⟨_, _, rfl, he, ⟨b, pl, pr, rfl, hh, hl.below hb, hr.below hb⟩, hb⟩

theorem size27 : (Try.prog.info? 27).map (·.size) = some 4 := by kernel_rfl
/-- the cells of a rope -/
def rc (c x d : Int) (p : Option Addr) : Array Value := #[.int .i64 c, .int .i64 x, .int .i64 d, .pointer p]
theorem load27 {W : World} {g : Nat} {c x d : Int} {p : Option Addr} (hh : W.heap[g]? = some (.cells (rc c x d p) 27 (0, 0))) : (loadVar 27 ⟨g, 0, none⟩).run Try.prog W = .ok (.agg (rc c x d p)) W :=
  run_loadVar_row W g 27 27 _ (0, 0) _ hh Try.underlying27 rfl size27
/-- a rope that lies in the cell of the result -/
theorem res_rope {fn : Func} {t : Tmp} (h : fn.results = #[.cell t 27]) {tmps : Array Value} {W : World} {g : Nat} {c x d : Int} {p : Option Addr} (ht : tmps.getD t undef = .pointer (some ⟨g, 0, none⟩))
    (hh : W.heap[g]? = some (.cells (rc c x d p) 27 (0, 0))) :
    (results fn tmps).run Try.prog W = .ok (.agg (rc c x d p)) W := by
  have hp' : tmps[t]?.getD undef = .pointer (some ⟨g, 0, none⟩) := by simpa using ht
  simp [results, h, hp', asAddr, load27 hh]
theorem res_rope_err {fn : Func} {t u : Tmp} (h : fn.results = #[.cell t 27, .tmp u]) {tmps : Array Value} {W : World} {g : Nat} {c x d : Int} {p : Option Addr} (ht : tmps.getD t undef = .pointer (some ⟨g, 0, none⟩))
    (hh : W.heap[g]? = some (.cells (rc c x d p) 27 (0, 0))) :
    (results fn tmps).run Try.prog W = .ok (.tuple #[.agg (rc c x d p), tmps.getD u undef]) W := by
  have hp' : tmps[t]?.getD undef = .pointer (some ⟨g, 0, none⟩) := by simpa using ht
  simp [results, h, hp', asAddr, load27 hh]
theorem res_ropes {fn : Func} {t u : Tmp} (h : fn.results = #[.cell t 27, .cell u 27]) {tmps : Array Value} {W : World} {g k : Nat} {c x d c' x' d' : Int} {p p' : Option Addr}
    (ht : tmps.getD t undef = .pointer (some ⟨g, 0, none⟩)) (hu : tmps.getD u undef = .pointer (some ⟨k, 0, none⟩))
    (hh : W.heap[g]? = some (.cells (rc c x d p) 27 (0, 0))) (hk : W.heap[k]? = some (.cells (rc c' x' d' p') 27 (0, 0))) :
    (results fn tmps).run Try.prog W = .ok (.tuple #[.agg (rc c x d p), .agg (rc c' x' d' p')]) W := by
  have hp' : tmps[t]?.getD undef = .pointer (some ⟨g, 0, none⟩) := by simpa using ht
  have hq' : tmps[u]?.getD undef = .pointer (some ⟨k, 0, none⟩) := by simpa using hu
  simp [results, h, hp', hq', asAddr, load27 hh, load27 hk]
theorem res_ropes_err {fn : Func} {t u v : Tmp} (h : fn.results = #[.cell t 27, .cell u 27, .tmp v]) {tmps : Array Value} {W : World} {g k : Nat} {c x d c' x' d' : Int} {p p' : Option Addr}
    (ht : tmps.getD t undef = .pointer (some ⟨g, 0, none⟩)) (hu : tmps.getD u undef = .pointer (some ⟨k, 0, none⟩))
    (hh : W.heap[g]? = some (.cells (rc c x d p) 27 (0, 0))) (hk : W.heap[k]? = some (.cells (rc c' x' d' p') 27 (0, 0))) :
    (results fn tmps).run Try.prog W = .ok (.tuple #[.agg (rc c x d p), .agg (rc c' x' d' p'), tmps.getD v undef]) W := by
  have hp' : tmps[t]?.getD undef = .pointer (some ⟨g, 0, none⟩) := by simpa using ht
  have hq' : tmps[u]?.getD undef = .pointer (some ⟨k, 0, none⟩) := by simpa using hu
  simp [results, h, hp', hq', asAddr, load27 hh, load27 hk]

set_option maxHeartbeats 1000000 in
theorem build_any {l r : T} {s : Int} {pl pr : Option Addr} {w : World} (hl : Nd w l pl) (hr : Nd w r pr) (ho : Ok (T.node l s r).list) :
    Calls Try.prog 54 #[.agg #[.int .i64 l.count, .int .i64 l.total, .int .i64 l.depth, .pointer pl], .int .i64 s, .agg #[.int .i64 r.count, .int .i64 r.total, .int .i64 r.depth, .pointer pr]] w (Gives (· = T.node l s r) w) := by
  obtain ⟨h1, h2, h3, h4, h5, h6⟩ := T.parts ho
  obtain ⟨b1, b2, b3, b4⟩ := T.bounds h1
  obtain ⟨c1, c2, c3, c4⟩ := T.bounds h2
  have HL := Lib.hid hl
  have HR := Lib.hid hr
  clear hl hr h1 h2 ho
  go_enter Try.func54, Try.ntmps54
  go_wp2
  all_goals
    refine bodyPost_ret (res_rope rfl (g := w.heap.size + 1 + 1) rfl ((Below.heap_alloc _ _ _ ?_).trans (new_at _ ?_))) rfl (gives_node HL.out HR.out (((((Below.refl _ _).alloc (Nat.le_refl _) _).alloc (by simp) _).alloc (by simp; omega) _).alloc (by simp; omega) _) rfl ?_ ?_ ?_ (new_at _ ?_))
    · simp
    · simp
    · simp [T.count]
    · simp [T.total]
    · simp only [T.depth]; omega
    · simp
end Go.Proofs.Ytfkjnepafgehiaa
