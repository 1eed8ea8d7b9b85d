/- Words for variables that hold a map, and for what hands a map back; the closures. -/
import Derived.Test.YtakgnpmfnechhaaBase
namespace Go.Proofs.Ytakgnpmfnechhaa
open Go.RowKit

theorem size24 : (Try.prog.info? 24).map (·.size) = some 2 := by kernel_rfl
theorem load24 {W : World} {g : Nat} {u v : Value} (hh : W.heap[g]? = some (.cells #[u, v] 24 (0, 0))) : (loadVar 24 ⟨g, 0, none⟩).run Try.prog W = .ok (.agg #[u, v]) W :=
  run_loadVar_row W g 24 24 _ (0, 0) _ hh Try.underlying24 rfl size24
theorem res_map {fn : Func} {t : Tmp} (h : fn.results = #[.cell t 24]) {tmps : Array Value} {W : World} {g : Nat} {u v : Value} (ht : tmps.getD t undef = .pointer (some ⟨g, 0, none⟩))
    (hh : W.heap[g]? = some (.cells #[u, v] 24 (0, 0))) : (results fn tmps).run Try.prog W = .ok (.agg #[u, v]) W := by
  have hp' : tmps[t]?.getD undef = .pointer (some ⟨g, 0, none⟩) := by simpa using ht
  simp [results, h, hp', asAddr, load24 hh]
theorem res_map_err {fn : Func} {t u : Tmp} (h : fn.results = #[.cell t 24, .tmp u]) {tmps : Array Value} {W : World} {g : Nat} {x y : Value} (ht : tmps.getD t undef = .pointer (some ⟨g, 0, none⟩))
    (hh : W.heap[g]? = some (.cells #[x, y] 24 (0, 0))) : (results fn tmps).run Try.prog W = .ok (.tuple #[.agg #[x, y], tmps.getD u undef]) W := by
  have hp' : tmps[t]?.getD undef = .pointer (some ⟨g, 0, none⟩) := by simpa using ht
  simp [results, h, hp', asAddr, load24 hh]
/-- a variable for a map -/
def Room (W : World) (g : Nat) : Prop := ∃ u v, W.heap[g]? = some (.cells #[u, v] 24 (0, 0))
theorem Room.keep {w0 w1 : World} {g : Nat} (h : Room w0 g) (hb : Below w0.heap.size w0 w1) : Room w1 g := by
  obtain ⟨u, v, h⟩ := h
  exact ⟨u, v, keep_heap hb h⟩
theorem Room.open_ {W : World} {g : Nat} (h : Room W g) : ∃ u v, W.cell? ⟨g, 0, none⟩ = some u ∧ W.cell? ⟨g, 1, none⟩ = some v ∧ W.frozen? ⟨g, 0, none⟩ = false ∧ W.frozen? ⟨g, 1, none⟩ = false := by
  obtain ⟨u, v, h⟩ := h
  exact ⟨u, v, cell_of_row W g 0 _ 24 (0, 0) h, cell_of_row W g 1 _ 24 (0, 0) h, by simp [World.frozen?, h], by simp [World.frozen?, h]⟩
theorem Room.new (w : World) (u v : Value) : Room (w.alloc (.cells #[u, v] 24)) w.heap.size := ⟨_, _, heap_alloc_new w _⟩
theorem heap_set2 {W : World} {g : Nat} {u v : Value} (h : Room W g) : ((W.setCell ⟨g, 0, none⟩ u).setCell ⟨g, 1, none⟩ v).heap[g]? = some (.cells #[u, v] 24 (0, 0)) := by
  obtain ⟨u, v, h⟩ := h
  simp [World.setCell, Array.getElem?_modify, h]
theorem below_set2 {B : Nat} {w W : World} {g : Nat} {u v : Value} (h : Below B w W) (hg : B ≤ g) : Below B w ((W.setCell ⟨g, 0, none⟩ u).setCell ⟨g, 1, none⟩ v) := (h.setCell hg _).setCell hg _
/-- an address that is new since w -/
def Far (w : World) (A : Option Addr) : Prop := ∀ p, A = some p → w.heap.size ≤ p.block
theorem far_none (w : World) : Far w none := fun p h => by cases h
theorem Far.mono {w w' : World} {A : Option Addr} (h : Far w' A) (hw : w.heap.size ≤ w'.heap.size) : Far w A := fun p e => Nat.le_trans hw (h p e)
theorem sl_set2 {W : World} {g : Nat} {u v : Value} {A : Option Addr} {c : Nat} {l : List Int} (h : SlI W A c l) (hA : ∀ p, A = some p → g < p.block) : SlI ((W.setCell ⟨g, 0, none⟩ u).setCell ⟨g, 1, none⟩ v) A c l := by
  refine ⟨fun k hk => ?_, h.le, h.max, h.nil⟩
  obtain ⟨b, o, e, hb, hc⟩ := h.rd k hk
  have hbg := hA _ e
  have hne : b ≠ g := by simp only at hbg; omega
  refine ⟨b, o, e, by simpa using hb, ?_⟩
  rw [World.cell?_setCell_other _ _ _ _ (fun e => hne (congrArg Addr.block e).symm), World.cell?_setCell_other _ _ _ _ (fun e => hne (congrArg Addr.block e).symm)]
  exact hc
/-- a map is handed back -/
def MapX (r : Int × List Int) (w : World) (e : Ending) (w' : World) : Prop := ∃ A, e = .returned (.agg #[.int .i64 r.1, .slice A r.2.length r.2.length]) ∧ SlI w' A r.2.length r.2 ∧ Far w A ∧ Below w.heap.size w w'
/-- a map and an error are handed back -/
def MapE (r : (Int × List Int) × Int) (w : World) (e : Ending) (w' : World) : Prop := ∃ A, e = .returned (.tuple #[.agg #[.int .i64 r.1.1, .slice A r.1.2.length r.1.2.length], .int .i64 r.2]) ∧ SlI w' A r.1.2.length r.1.2 ∧ Far w A ∧ Below w.heap.size w w'
theorem mapE_err {f : Int} {w W : World} (hb : Below w.heap.size w W) : MapE ((0, []), f) w (.returned (.tuple #[.agg #[.int .i64 0, .slice none 0 0], .int .i64 f])) W := ⟨none, rfl, SlI.none W, far_none _, hb⟩
/-- a map, stored into the variable of the result -/
theorem mapE_set {o : Int} {l : List Int} {w W w0 : World} {A : Option Addr} {g : Nat} (hg : w.heap.size ≤ g) (hg0 : g < w0.heap.size) (hs : SlI W A l.length l) (hf : Far w0 A) (hb : Below w.heap.size w W) :
    MapE ((o, l), 0) w (.returned (.tuple #[.agg #[.int .i64 o, .slice A l.length l.length], .int .i64 0])) ((W.setCell ⟨g, 0, none⟩ (.int .i64 o)).setCell ⟨g, 1, none⟩ (.slice A l.length l.length)) :=
  ⟨A, rfl, sl_set2 hs (fun p e => Nat.lt_of_lt_of_le hg0 (hf p e)), fun p e => by have := hf p e; omega, below_set2 hb hg⟩
/-- a map lies in a variable -/
structure Mv (W : World) (g : Nat) (o : Int) (A : Option Addr) (c : Nat) (l : List Int) : Prop where
  box : W.heap[g]? = some (.cells #[.int .i64 o, .slice A l.length c] 24 (0, 0))
  sl : SlI W A c l
theorem Mv.next {W W' : World} {g : Nat} {o : Int} {A : Option Addr} {c : Nat} {l : List Int} (h : Mv W g o A c l) (hb : Below W.heap.size W W') : Mv W' g o A c l := ⟨keep_heap hb h.box, h.sl.next hb⟩
theorem Mv.cells {W : World} {g : Nat} {o : Int} {A : Option Addr} {c : Nat} {l : List Int} (h : Mv W g o A c l) : W.cell? ⟨g, 0, none⟩ = some (.int .i64 o) ∧ W.cell? ⟨g, 1, none⟩ = some (.slice A l.length c) :=
  ⟨cell_of_row W g 0 _ 24 (0, 0) h.box, cell_of_row W g 1 _ 24 (0, 0) h.box⟩
theorem Mv.new {W : World} {o : Int} {A : Option Addr} {c : Nat} {l : List Int} (h : SlI W A c l) : Mv (W.alloc (.cells #[.int .i64 o, .slice A l.length c] 24)) W.heap.size o A c l := ⟨heap_alloc_new W _, h.next (below_new W _)⟩
theorem Mv.lt {W : World} {g : Nat} {o : Int} {A : Option Addr} {c : Nat} {l : List Int} (h : Mv W g o A c l) : g < W.heap.size := heap_lt h.box

/-! ### the closures -/
/-- a number is returned, nothing has changed -/
def NumS (n : Int) (w : World) (e : Ending) (w' : World) : Prop := e = .returned (.int .i64 n) ∧ w = w'
set_option maxHeartbeats 1000000 in
theorem clos34 {w : World} {vb va : Nat} {ob oa : Int} {B A : Option Addr} {cb ca : Nat} {b a : List Int} (hb : Mv w vb ob B cb b) (ha : Mv w va oa A ca a) (hr : ∀ x ∈ b, -1 ≤ x ∧ x < a.length) (k : Nat) (hk : k < b.length) :
    Calls Try.prog 34 #[.int .i64 k, .pointer (some ⟨vb, 0, none⟩), .pointer (some ⟨va, 0, none⟩)] w (NumS (g a (b.getD k 0)) w) := by
  obtain ⟨_, g1⟩ := hb.cells
  obtain ⟨_, g2⟩ := ha.cells
  obtain ⟨q, o, rfl, _, g3⟩ := hb.sl.rd k hk
  have hx := hr _ (List.getElem_mem hk)
  have hle := ha.sl.le
  have he : b.getD k 0 = b[k] := by rw [List.getD_eq_getElem?_getD, List.getElem?_eq_getElem hk]; rfl
  rw [he]
  obtain ⟨x, hxe⟩ : ∃ x, b[k] = x := ⟨_, rfl⟩
  rw [hxe] at g3 hx ⊢
  clear hr he hxe hb
  by_cases h0 : x = -1
  · subst h0
    clear ha
    go_enter Try.func34, Try.ntmps34
    go_wp2_with fail
    go_ret
    exact ⟨rfl, rfl⟩
  · obtain ⟨i, rfl⟩ : ∃ i : Nat, x = i := ⟨x.toNat, by omega⟩
    have hi : i < a.length := by omega
    have HG : Hid (g a (i : Int) = a[i]) := Lib.hid (g_at hi)
    obtain ⟨q2, o2, rfl, _, g4⟩ := ha.sl.rd i hi
    have hn : ((i : Int) == -1) = false := by simp
    generalize a[i] = y at *
    clear ha
    go_enter Try.func34, Try.ntmps34
    go_wp2_with fail
    go_ret
    exact ⟨ret_int HG.out.symm, rfl⟩
theorem clos35 (w : World) (k : Nat) : Calls Try.prog 35 #[.int .i64 k] w (NumS (-1) w) := by
  go_enter Try.func35, Try.ntmps35
  go_wp2_with fail
  go_ret
  exact ⟨rfl, rfl⟩
theorem clos39 (w : World) (k : Nat) : Calls Try.prog 39 #[.int .i64 k] w (NumS k w) := by
  go_enter Try.func39, Try.ntmps39
  go_wp2_with fail
  go_ret
  exact ⟨rfl, rfl⟩
/-- a variable that holds a number -/
def Vn (w : World) (v : Nat) (n : Nat) : Prop := w.heap[v]? = some (.cells #[.int .i64 n] 3 (0, 0))
theorem Vn.next {w w' : World} {v n : Nat} (h : Vn w v n) (hb : Below w.heap.size w w') : Vn w' v n := keep_heap hb h
theorem Vn.cell {w : World} {v n : Nat} (h : Vn w v n) : w.cell? ⟨v, 0, none⟩ = some (.int .i64 n) := cell_of_one h
set_option maxHeartbeats 1000000 in
theorem clos40 {w : World} {va vm a m : Nat} (ha : Vn w va a) (hm : Vn w vm m) (ha2 : a ≤ 4096) (hm2 : m ≤ 4096) (k : Nat) (hk : k ≤ 4096) :
    Calls Try.prog 40 #[.int .i64 k, .pointer (some ⟨va, 0, none⟩), .pointer (some ⟨vm, 0, none⟩)] w (NumS (insF a m k) w) := by
  have g1 := ha.cell
  have g2 := hm.cell
  clear ha hm
  unfold insF
  by_cases h1 : k < a
  · rw [if_pos h1]
    have h2 : (k : Int) < (a : Int) := by omega
    go_enter Try.func40, Try.ntmps40
    go_wp2_with fail
    go_ret
    exact ⟨rfl, rfl⟩
  · rw [if_neg h1]
    have h2 : ¬ (k : Int) < (a : Int) := by omega
    by_cases h3 : k < a + m
    · rw [if_pos h3]
      have h4 : (k : Int) < (a : Int) + (m : Int) := by omega
      go_enter Try.func40, Try.ntmps40
      go_wp2_with fail
      go_ret
      exact ⟨rfl, rfl⟩
    · rw [if_neg h3]
      have h4 : ¬ (k : Int) < (a : Int) + (m : Int) := by omega
      go_enter Try.func40, Try.ntmps40
      go_wp2_with fail
      go_ret
      exact ⟨rfl, rfl⟩
set_option maxHeartbeats 1000000 in
theorem clos44 {w : World} {va vm a m : Nat} (ha : Vn w va a) (hm : Vn w vm m) (hm2 : m ≤ 4096) (k : Nat) (hk : k ≤ 4096) :
    Calls Try.prog 44 #[.int .i64 k, .pointer (some ⟨va, 0, none⟩), .pointer (some ⟨vm, 0, none⟩)] w (NumS (othF a m k) w) := by
  have g1 := ha.cell
  have g2 := hm.cell
  clear ha hm
  unfold othF
  by_cases h1 : k < a
  · rw [if_pos h1]
    have h2 : (k : Int) < (a : Int) := by omega
    go_enter Try.func44, Try.ntmps44
    go_wp2_with fail
    go_ret
    exact ⟨rfl, rfl⟩
  · rw [if_neg h1]
    have h2 : ¬ (k : Int) < (a : Int) := by omega
    go_enter Try.func44, Try.ntmps44
    go_wp2_with fail
    go_ret
    exact ⟨rfl, rfl⟩
/-- a variable that holds the function of the others -/
def Vf (w : World) (v va vm : Nat) : Prop := w.heap[v]? = some (.cells #[.func (.func 44) #[] #[.pointer (some ⟨va, 0, none⟩), .pointer (some ⟨vm, 0, none⟩)]] 65 (0, 0))
theorem Vf.next {w w' : World} {v va vm : Nat} (h : Vf w v va vm) (hb : Below w.heap.size w w') : Vf w' v va vm := keep_heap hb h
set_option maxHeartbeats 1000000 in
theorem clos43 {w : World} {vt vf v1 v2 va vm a m t : Nat} (ht : Vn w vt t) (hf : Vf w vf v1 v2) (h1 : Vn w v1 a) (h2 : Vn w v2 m) (ha : Vn w va a) (hm : Vn w vm m) (ha2 : a ≤ 4096) (hm2 : m ≤ 4096) (ht2 : t ≤ 4096) (k : Nat) (hk : k ≤ 4096) :
    Calls Try.prog 43 #[.int .i64 k, .pointer (some ⟨vt, 0, none⟩), .pointer (some ⟨vf, 0, none⟩), .pointer (some ⟨vm, 0, none⟩), .pointer (some ⟨va, 0, none⟩)] w (NumS (movF a m t k) w) := by
  have g1 := ha.cell
  have g2 := hm.cell
  have g3 := ht.cell
  have g4 := cell_of_one hf
  have HC := Lib.hid (fun k hk => clos44 h1 h2 hm2 k hk)
  clear ha hm ht hf h1 h2
  unfold movF
  by_cases h1 : k < t
  · rw [if_pos h1]
    have h2 : (k : Int) < (t : Int) := by omega
    go_enter Try.func43, Try.ntmps43
    go_wp2_with fail
    refine (HC.out k hk).mono ?_
    rintro e w' ⟨rfl, rfl⟩
    go_wp2_with fail
    go_ret
    exact ⟨rfl, rfl⟩
  · rw [if_neg h1]
    have h2 : ¬ (k : Int) < (t : Int) := by omega
    by_cases h3 : k < t + m
    · rw [if_pos h3]
      have h4 : (k : Int) < (t : Int) + (m : Int) := by omega
      go_enter Try.func43, Try.ntmps43
      go_wp2_with fail
      go_ret
      exact ⟨rfl, rfl⟩
    · rw [if_neg h3]
      have h4 : ¬ (k : Int) < (t : Int) + (m : Int) := by omega
      obtain ⟨q, hq⟩ : ∃ q : Nat, k - m = q := ⟨_, rfl⟩
      have hq2 : (k : Int) - (m : Int) = (q : Int) := by omega
      have hq3 : q ≤ 4096 := by omega
      rw [hq]
      clear hq
      go_enter Try.func43, Try.ntmps43
      go_wp2_with fail
      refine (HC.out q hq3).mono ?_
      rintro e w' ⟨rfl, rfl⟩
      go_wp2_with fail
      go_ret
      exact ⟨rfl, rfl⟩
end Go.Proofs.Ytakgnpmfnechhaa
