/- Words for memory: a rope's tree of nodes; the smallest functions. -/
import Derived.Test.YtdejdnkkbpmmlaaMFRefW
import Derived.Test.YtdejdnkkbpmmlaaProg
import Derived.WalkKit
import Derived.WalkSpells
import Derived.WalkLawsBesides
import Derived.Lib.Hide
import Derived.Laws.OwnMore
import Derived.Deep.AppendLies
import Derived.Deep.Draws
import Derived.Deep.QuietTactic
import Derived.BigQuiet
import Derived.StillTailTactics
import Derived.Deep.RegionHeld3
import Derived.OneCell
import Derived.Outline
namespace Go.Proofs.Ytdejdnkkbpmmlaa

/-- a tree of sizes -/
inductive T where
  | nil
  | node (l : T) (s : Int) (r : T)
namespace T
def count : T → Nat
  | nil => 0
  | node l _ r => l.count + 1 + r.count
def total : T → Int
  | nil => 0
  | node l s r => l.total + s + r.total
def depth : T → Nat
  | nil => 0
  | node l _ r => max l.depth r.depth + 1
def list : T → List Int
  | nil => []
  | node l s r => l.list ++ s :: r.list
/-- the depths of the sides differ by at most 1, everywhere -/
def Bal : T → Prop
  | nil => True
  | node l _ r => l.Bal ∧ r.Bal ∧ l.depth ≤ r.depth + 1 ∧ r.depth ≤ l.depth + 1

theorem len (t : T) : t.list.length = t.count := by
  induction t with
  | nil => rfl
  | node l s r hl hr => simp [list, count, hl, hr]; omega
theorem sum (t : T) : t.list.sum = t.total := by
  induction t with
  | nil => rfl
  | node l s r hl hr => simp [list, total, hl, hr]; omega
theorem depth_zero {t : T} (h : t.depth = 0) : t = nil := by
  cases t with
  | nil => rfl
  | node l s r => simp [depth] at h
theorem count_zero {t : T} (h : t.count = 0) : t = nil := by
  cases t with
  | nil => rfl
  | node l s r => simp [count] at h
theorem depth_pos {t : T} (h : 0 < t.depth) : ∃ l s r, t = node l s r := by
  cases t with
  | nil => simp [depth] at h
  | node l s r => exact ⟨l, s, r, rfl⟩
theorem count_pos {t : T} (h : 0 < t.count) : ∃ l s r, t = node l s r := by
  cases t with
  | nil => simp [count] at h
  | node l s r => exact ⟨l, s, r, rfl⟩
theorem depth_le (t : T) : t.depth ≤ t.count := by
  induction t with
  | nil => exact Nat.le_refl _
  | node l s r hl hr => simp only [depth, count]; omega
end T

/-- How many sizes a tree of a depth has at least. -/
def F : Nat → Nat
  | 0 => 0
  | 1 => 1
  | n + 2 => F (n + 1) + F n + 1
theorem F_succ (n : Nat) : F n ≤ F (n + 1) := by
  induction n using Nat.strongRecOn with
  | _ n ih =>
    match n with
    | 0 => decide
    | 1 => decide
    | n + 2 =>
      have a : F (n + 1) ≤ F (n + 2) := ih (n + 1) (by omega)
      have b := ih n (by omega)
      show F (n + 2) ≤ F (n + 3)
      have e1 : F (n + 2) = F (n + 1) + F n + 1 := rfl
      have e2 : F (n + 3) = F (n + 2) + F (n + 1) + 1 := rfl
      omega
theorem F_mono {a b : Nat} (h : a ≤ b) : F a ≤ F b := by
  induction b with
  | zero => simp at h; subst h; exact Nat.le_refl _
  | succ b ih =>
    rcases Nat.eq_or_lt_of_le h with e | e
    · subst e; exact Nat.le_refl _
    · exact Nat.le_trans (ih (by omega)) (F_succ b)
theorem T.F_le {t : T} (h : t.Bal) : F t.depth ≤ t.count := by
  induction t with
  | nil => exact Nat.le_refl _
  | node l s r hl hr =>
    obtain ⟨bl, br, h1, h2⟩ := h
    have a := hl bl
    have b := hr br
    simp only [T.depth, T.count]
    rcases Nat.le_total l.depth r.depth with e | e
    · rw [Nat.max_eq_right e]
      rcases Nat.eq_zero_or_pos r.depth with z | z
      · rw [z]; simp [F]; omega
      · obtain ⟨k, hk⟩ : ∃ k, r.depth = k + 1 := ⟨r.depth - 1, by omega⟩
        have : F (r.depth + 1) = F r.depth + F k + 1 := by rw [hk]; rfl
        have := F_mono (a := k) (b := l.depth) (by omega)
        omega
    · rw [Nat.max_eq_left e]
      rcases Nat.eq_zero_or_pos l.depth with z | z
      · rw [z]; simp [F]; omega
      · obtain ⟨k, hk⟩ : ∃ k, l.depth = k + 1 := ⟨l.depth - 1, by omega⟩
        have : F (l.depth + 1) = F l.depth + F k + 1 := by rw [hk]; rfl
        have := F_mono (a := k) (b := r.depth) (by omega)
        omega
theorem T.depth_16 {t : T} (h : t.Bal) (hc : t.count ≤ 4096) : t.depth ≤ 16 := by
  rcases Nat.lt_or_ge 16 t.depth with e | e
  · have h1 := F_mono (a := 17) (b := t.depth) e
    have h2 : F 17 = 4180 := by decide
    have := T.F_le h
    omega
  · exact e

/-- Sizes that are put together stay in their range. -/
structure Ok (l : List Int) : Prop where
  nn : ∀ x ∈ l, 0 ≤ x
  sum : l.sum ≤ 4611686018427387904
  len : l.length ≤ 4096
theorem sum_nn {l : List Int} (h : ∀ x ∈ l, 0 ≤ x) : 0 ≤ l.sum := by
  induction l with
  | nil => exact Int.le_refl _
  | cons a r ih =>
    have h1 := h a (by simp)
    have h2 := ih fun x hx => h x (by simp [hx])
    simp only [List.sum_cons]
    omega
theorem sum_sub {a b : List Int} (hs : a.Sublist b) (h : ∀ x ∈ b, 0 ≤ x) : a.sum ≤ b.sum := by
  induction hs with
  | slnil => exact Int.le_refl _
  | cons x hs ih =>
    have h1 := h x (by simp)
    have h2 := ih fun y hy => h y (by simp [hy])
    simp only [List.sum_cons]
    omega
  | cons_cons x hs ih =>
    have h2 := ih fun y hy => h y (by simp [hy])
    simp only [List.sum_cons]
    omega
theorem Ok.sub {a b : List Int} (h : Ok b) (hs : a.Sublist b) : Ok a :=
  ⟨fun x hx => h.nn x (hs.subset hx), Int.le_trans (sum_sub hs h.nn) h.sum, Nat.le_trans hs.length_le h.len⟩
theorem Ok.lo {a : List Int} (h : Ok a) : 0 ≤ a.sum := sum_nn h.nn
theorem Ok.app {a b : List Int} (h : Ok (a ++ b)) : Ok a ∧ Ok b := ⟨h.sub (List.sublist_append_left a b), h.sub (List.sublist_append_right a b)⟩
theorem Ok.mid {a b : List Int} {s : Int} (h : Ok (a ++ s :: b)) : Ok a ∧ Ok b ∧ 0 ≤ s ∧ s ≤ 4611686018427387904 ∧ a.sum + s + b.sum ≤ 4611686018427387904 ∧ a.length + 1 + b.length ≤ 4096 := by
  have h1 := h.app.1
  have h2 : Ok b := h.app.2.sub (List.sublist_cons_self s b)
  have h3 := h.nn s (by simp)
  have h4 := h.sum
  have h5 := h.len
  have h6 := h1.lo
  have h7 := h2.lo
  simp at h4 h5
  exact ⟨h1, h2, h3, by omega, by omega, by omega⟩
theorem T.bounds {t : T} (h : Ok t.list) : 0 ≤ t.total ∧ t.total ≤ 4611686018427387904 ∧ t.count ≤ 4096 ∧ t.depth ≤ 4096 := by
  have h1 := h.lo
  have h2 := h.sum
  have h3 := h.len
  rw [T.sum] at h1 h2
  rw [T.len] at h3
  have := t.depth_le
  exact ⟨h1, h2, h3, by omega⟩
theorem T.parts {l r : T} {s : Int} (h : Ok (T.node l s r).list) : Ok l.list ∧ Ok r.list ∧ 0 ≤ s ∧ s ≤ 4611686018427387904 ∧ l.total + s + r.total ≤ 4611686018427387904 ∧ l.count + 1 + r.count ≤ 4096 := by
  have := Ok.mid (h : Ok (l.list ++ s :: r.list))
  rwa [T.sum, T.sum, T.len, T.len] at this

/-- Valid lists keep their range. -/
theorem Vd.ok {l : List Int} (h : Vd l) : Ok l := by
  refine ⟨fun x hx => ?_, ?_, h.len⟩
  · obtain ⟨k, hk, rfl⟩ := List.getElem_of_mem hx
    exact (h.each k hk).1
  · have := h.sum
    rwa [pre, List.take_of_length_le (Nat.le_refl _)] at this
theorem vd_of {l : List Int} (h : Ok l) (he : ∀ x ∈ l, x ≤ 2305843009213693952) : Vd l :=
  ⟨h.len, fun k hk => ⟨h.nn _ (List.getElem_mem hk), he _ (List.getElem_mem hk)⟩, by rw [pre, List.take_of_length_le (Nat.le_refl _)]; exact h.sum⟩
theorem Vd.hi1 {l : List Int} (h : Vd l) : ∀ x ∈ l, x ≤ 2305843009213693952 := fun x hx => by
  obtain ⟨k, hk, rfl⟩ := List.getElem_of_mem hx
  exact (h.each k hk).2
theorem Vd.sub {a b : List Int} (h : Vd b) (hs : a.Sublist b) : Vd a := vd_of (h.ok.sub hs) fun x hx => h.hi1 x (hs.subset hx)

/-- The depth of a tree that is made by halves. -/
def halfD (n : Nat) : Nat := if n = 0 then 0 else halfD (n / 2) + 1
termination_by n
decreasing_by omega
theorem halfD_zero : halfD 0 = 0 := by rw [halfD]; rfl
theorem halfD_pos {n : Nat} (h : 0 < n) : halfD n = halfD (n / 2) + 1 := by rw [halfD, if_neg (by omega)]
theorem halfD_step (n : Nat) : halfD n ≤ halfD (n + 1) ∧ halfD (n + 1) ≤ halfD n + 1 := by
  induction n using Nat.strongRecOn with
  | _ n ih =>
    rcases Nat.eq_zero_or_pos n with h | h
    · subst h
      rw [halfD_pos (n := 0 + 1) (by omega), show (0 + 1) / 2 = 0 from rfl, halfD_zero]
      omega
    · rw [halfD_pos h, halfD_pos (n := n + 1) (by omega)]
      have := ih (n / 2) (by omega)
      by_cases e : (n + 1) / 2 = n / 2
      · rw [e]; omega
      · rw [show (n + 1) / 2 = n / 2 + 1 by omega]; omega
/-- the two halves around the middle one -/
theorem halfD_split {n : Nat} (h : 0 < n) : halfD n = max (halfD (n / 2)) (halfD (n - n / 2 - 1)) + 1 ∧ halfD (n / 2) ≤ halfD (n - n / 2 - 1) + 1 ∧ halfD (n - n / 2 - 1) ≤ halfD (n / 2) + 1 := by
  have a := halfD_step (n - n / 2 - 1)
  rw [halfD_pos h]
  by_cases e : n - n / 2 - 1 = n / 2
  · rw [e, Nat.max_self]; omega
  · rw [show n / 2 = n - n / 2 - 1 + 1 by omega]
    have : n - (n - n / 2 - 1 + 1) - 1 = n - n / 2 - 1 := by omega
    rw [this, Nat.max_eq_left (by omega)]; omega

/-- The depth of a tree whose sides may differ by 2: what balance makes of it. -/
def BalD (dl dr d : Nat) : Prop := (dl ≤ dr + 1 ∧ dr ≤ dl + 1 ∧ d = max dl dr + 1) ∨ ((dl = dr + 2 ∨ dr = dl + 2) ∧ (d = max dl dr ∨ d = max dl dr + 1))
end Go.Proofs.Ytdejdnkkbpmmlaa

namespace Go.Proofs.Ytdejdnkkbpmmlaa
open Go.RowKit

/-- The tree lies in memory, and this leads to its root. -/
def Nd (w : World) : T → Option Addr → Prop
  | .nil, p => p = none
  | .node l s r, p => ∃ b pl pr, p = some ⟨b, 0, none⟩ ∧
      w.heap[b]? = some (.cells #[.int .i64 l.count, .int .i64 l.total, .int .i64 l.depth, .pointer pl, .int .i64 s, .int .i64 r.count, .int .i64 r.total, .int .i64 r.depth, .pointer pr] 92 (0, 0)) ∧ Nd w l pl ∧ Nd w r pr
theorem heap_lt {w : World} {b : Nat} {o : Obj} (h : w.heap[b]? = some o) : b < w.heap.size := by
  rcases Nat.lt_or_ge b w.heap.size with hlt | hge
  · exact hlt
  · rw [Array.getElem?_eq_none hge] at h; cases h
theorem Nd.below {w w' : World} (hb : Below w.heap.size w w') : ∀ {t : T} {p : Option Addr}, Nd w t p → Nd w' t p
  | .nil, _, h => h
  | .node _ _ _, _, ⟨b, pl, pr, e, h, hl, hr⟩ => ⟨b, pl, pr, e, (hb.block b (heap_lt h)).trans h, Nd.below hb hl, Nd.below hb hr⟩
theorem Nd.drewN {w : World} (n : Nat) {t : T} {p : Option Addr} (h : Nd w t p) : Nd (w.drewN n) t p := h.below (by exact ⟨rfl, rfl, rfl, Nat.le_refl _, fun _ _ => rfl⟩)

/-- A rope is returned. -/
def Gives (P : T → Prop) (w : World) (e : Ending) (w' : World) : Prop :=
  ∃ t p, P t ∧ e = .returned (.agg #[.int .i64 t.count, .int .i64 t.total, .int .i64 t.depth, .pointer p]) ∧ Nd w' t p ∧ Below w.heap.size w w'

theorem max_nat (a b : Nat) : (if (a : Int) < b then (b : Int) else (a : Int)) = ((max a b : Nat) : Int) := by
  rcases Nat.lt_or_ge a b with h | h
  · rw [if_pos (by omega), Nat.max_eq_right (by omega)]
  · rw [if_neg (by omega), Nat.max_eq_left h]

/-- a block that has just been made -/
theorem new_at {w : World} {o : Obj} (g : Nat) (h : w.heap.size = g) : (w.alloc o).heap[g]? = some o := h ▸ heap_alloc_new w o
theorem gives_node {l r : T} {s : Int} {pl pr : Option Addr} {w w' : World} {b : Nat} {e : Ending} {c x d : Int} (hl : Nd w l pl) (hr : Nd w r pr) (hb : Below w.heap.size w w')
    (he : e = .returned (.agg #[.int .i64 c, .int .i64 x, .int .i64 d, .pointer (some ⟨b, 0, none⟩)])) (hc : c = ((T.node l s r).count : Nat)) (hx : x = (T.node l s r).total) (hd : d = ((T.node l s r).depth : Nat))
    (hh : w'.heap[b]? = some (.cells #[.int .i64 l.count, .int .i64 l.total, .int .i64 l.depth, .pointer pl, .int .i64 s, .int .i64 r.count, .int .i64 r.total, .int .i64 r.depth, .pointer pr] 92 (0, 0))) :
    Gives (· = T.node l s r) w e w' := by
  subst hc; subst hx; subst hd
  exact ⟨_, _, rfl, he, ⟨b, pl, pr, rfl, hh, hl.below hb, hr.below hb⟩, hb⟩

theorem size27 : (Try.prog.info? 29).map (·.size) = some 4 := by kernel_rfl
/-- the cells of a rope -/
def rc (c x d : Int) (p : Option Addr) : Array Value := #[.int .i64 c, .int .i64 x, .int .i64 d, .pointer p]
theorem load27 {W : World} {g : Nat} {c x d : Int} {p : Option Addr} (hh : W.heap[g]? = some (.cells (rc c x d p) 29 (0, 0))) : (loadVar 29 ⟨g, 0, none⟩).run Try.prog W = .ok (.agg (rc c x d p)) W :=
  run_loadVar_row W g 29 29 _ (0, 0) _ hh Try.underlying29 rfl size27
/-- a rope that lies in the cell of the result -/
theorem res_rope {fn : Func} {t : Tmp} (h : fn.results = #[.cell t 29]) {tmps : Array Value} {W : World} {g : Nat} {c x d : Int} {p : Option Addr} (ht : tmps.getD t undef = .pointer (some ⟨g, 0, none⟩))
    (hh : W.heap[g]? = some (.cells (rc c x d p) 29 (0, 0))) :
    (results fn tmps).run Try.prog W = .ok (.agg (rc c x d p)) W := by
  have hp' : tmps[t]?.getD undef = .pointer (some ⟨g, 0, none⟩) := by simpa using ht
  simp [results, h, hp', asAddr, load27 hh]
theorem res_rope_err {fn : Func} {t u : Tmp} (h : fn.results = #[.cell t 29, .tmp u]) {tmps : Array Value} {W : World} {g : Nat} {c x d : Int} {p : Option Addr} (ht : tmps.getD t undef = .pointer (some ⟨g, 0, none⟩))
    (hh : W.heap[g]? = some (.cells (rc c x d p) 29 (0, 0))) :
    (results fn tmps).run Try.prog W = .ok (.tuple #[.agg (rc c x d p), tmps.getD u undef]) W := by
  have hp' : tmps[t]?.getD undef = .pointer (some ⟨g, 0, none⟩) := by simpa using ht
  simp [results, h, hp', asAddr, load27 hh]
theorem res_ropes {fn : Func} {t u : Tmp} (h : fn.results = #[.cell t 29, .cell u 29]) {tmps : Array Value} {W : World} {g k : Nat} {c x d c' x' d' : Int} {p p' : Option Addr}
    (ht : tmps.getD t undef = .pointer (some ⟨g, 0, none⟩)) (hu : tmps.getD u undef = .pointer (some ⟨k, 0, none⟩))
    (hh : W.heap[g]? = some (.cells (rc c x d p) 29 (0, 0))) (hk : W.heap[k]? = some (.cells (rc c' x' d' p') 29 (0, 0))) :
    (results fn tmps).run Try.prog W = .ok (.tuple #[.agg (rc c x d p), .agg (rc c' x' d' p')]) W := by
  have hp' : tmps[t]?.getD undef = .pointer (some ⟨g, 0, none⟩) := by simpa using ht
  have hq' : tmps[u]?.getD undef = .pointer (some ⟨k, 0, none⟩) := by simpa using hu
  simp [results, h, hp', hq', asAddr, load27 hh, load27 hk]
theorem res_ropes_err {fn : Func} {t u v : Tmp} (h : fn.results = #[.cell t 29, .cell u 29, .tmp v]) {tmps : Array Value} {W : World} {g k : Nat} {c x d c' x' d' : Int} {p p' : Option Addr}
    (ht : tmps.getD t undef = .pointer (some ⟨g, 0, none⟩)) (hu : tmps.getD u undef = .pointer (some ⟨k, 0, none⟩))
    (hh : W.heap[g]? = some (.cells (rc c x d p) 29 (0, 0))) (hk : W.heap[k]? = some (.cells (rc c' x' d' p') 29 (0, 0))) :
    (results fn tmps).run Try.prog W = .ok (.tuple #[.agg (rc c x d p), .agg (rc c' x' d' p'), tmps.getD v undef]) W := by
  have hp' : tmps[t]?.getD undef = .pointer (some ⟨g, 0, none⟩) := by simpa using ht
  have hq' : tmps[u]?.getD undef = .pointer (some ⟨k, 0, none⟩) := by simpa using hu
  simp [results, h, hp', hq', asAddr, load27 hh, load27 hk]

set_option maxHeartbeats 1000000 in
theorem build_any {l r : T} {s : Int} {pl pr : Option Addr} {w : World} (hl : Nd w l pl) (hr : Nd w r pr) (ho : Ok (T.node l s r).list) :
    Calls Try.prog 71 #[.agg #[.int .i64 l.count, .int .i64 l.total, .int .i64 l.depth, .pointer pl], .int .i64 s, .agg #[.int .i64 r.count, .int .i64 r.total, .int .i64 r.depth, .pointer pr]] w (Gives (· = T.node l s r) w) := by
  obtain ⟨h1, h2, h3, h4, h5, h6⟩ := T.parts ho
  obtain ⟨b1, b2, b3, b4⟩ := T.bounds h1
  obtain ⟨c1, c2, c3, c4⟩ := T.bounds h2
  have HL := Lib.hid hl
  have HR := Lib.hid hr
  clear hl hr h1 h2 ho
  go_enter Try.func71, Try.ntmps71
  go_wp2
  all_goals
    refine bodyPost_ret (res_rope rfl (g := w.heap.size + 1 + 1) rfl ((Below.heap_alloc _ _ _ ?_).trans (new_at _ ?_))) rfl (gives_node HL.out HR.out (((((Below.refl _ _).alloc (Nat.le_refl _) _).alloc (by simp) _).alloc (by simp; omega) _).alloc (by simp; omega) _) rfl ?_ ?_ ?_ (new_at _ ?_))
    · simp
    · simp
    · simp [T.count]
    · simp [T.total]
    · simp only [T.depth]; omega
    · simp
end Go.Proofs.Ytdejdnkkbpmmlaa
