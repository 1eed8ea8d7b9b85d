/- A law for a region that draws its order: behind a few operations that were taken first, its head (the operations whose indices are below n) is quiet in a class of worlds: each operation hands back one value whatever the world of the class, and leaves one of the class; what follows the head can come in one order only. -/
import Derived.Test.YtbdjpacmbaoaeaaDoorRowW
import Derived.Deep.Quiet
import Derived.StillTail
import Derived.OrdersHeld
namespace Go.Proofs.YtbdjpacmbaoaeaaDoor
open Go.RowKit

section
variable {P : Program} {ops : Array Oper} {C : World → Prop} {n : Nat} {L : Array Bool → Act → Prop} {d0 : Array Bool}

/-- each operation of the head is waited for, up to the first of the tail -/
def sinkX (ops : Array Oper) (d0 : Array Bool) (n : Nat) : Bool :=
  (List.range n).all fun i => d0.getD i false || (List.range (n + 1)).any fun j => decide (i < j) && !(d0.getD j false) && Region.waitsFor .any ops j i
/-- each operation of the tail but the first waits for one of the tail -/
def chainX (ops : Array Oper) (d0 : Array Bool) (n : Nat) : Bool :=
  (List.range ops.size).all fun t => decide (t ≤ n) || d0.getD t false || (List.range t).any fun s => decide (n ≤ s) && !(d0.getD s false) && Region.waitsFor .any ops t s
structure InHead (ops : Array Oper) (d0 : Array Bool) (n : Nat) (d : Array Bool) : Prop where
  closed : ∀ j oj, ops[j]? = some oj → d0.getD j false = false → d.getD j false = true → ∀ e ∈ oj.after, Region.binds .any e = true → d.getD e.on false = true
  more : ∀ j, d0.getD j false = true → d.getD j false = true
  tail : ∀ t, n ≤ t → t < ops.size → d0.getD t false = false → d.getD t false = false
  size : d.size = ops.size
theorem InHead.set {i : Nat} {d : Array Bool} (h : InHead ops d0 n d) (hi : i ∈ Region.ready .any ops d) (hin : i < n) : InHead ops d0 n (d.setIfInBounds i true) := by
  obtain ⟨_, oi, hoi, hall⟩ := mem_ready.1 hi
  refine ⟨fun j oj hj h0 hl e he hb => ?_, fun j hj => getD_set_true (h.more j hj), fun t ht ht' h0 => by rw [getD_set_ne false (by omega)]; exact h.tail t ht ht' h0, by simp [h.size]⟩
  by_cases hij : i = j
  · rw [← hij] at hj
    obtain rfl : oj = oi := Option.some.inj (hj.symm.trans hoi)
    exact getD_set_true (hall e he hb)
  · rw [getD_set_ne false hij] at hl
    exact getD_set_true (h.closed j oj hj h0 hl e he hb)
/-- while one of the head is still to come none of the tail can -/
theorem no_tail {d : Array Bool} (hs : sinkX ops d0 n = true) (hc : chainX ops d0 n = true) (h : InHead ops d0 n d) (_hn : n < ops.size) : ∀ m i, n - i = m → i < n → d.getD i false = false → ∀ t, n ≤ t → t ∉ Region.ready .any ops d := by
  intro m
  induction m using Nat.strongRecOn with
  | _ m ih =>
    intro i hm hi hun t ht hr
    obtain ⟨htd, ot, hot, hall⟩ := mem_ready.1 hr
    have hts : t < ops.size := (Array.getElem?_eq_some_iff.1 hot).1
    by_cases htn : t = n
    · rw [htn] at hot
      have h1 := List.all_eq_true.1 hs i (List.mem_range.2 hi)
      rw [Bool.or_eq_true] at h1
      rcases h1 with h1 | h1
      · rw [h.more i h1] at hun
        cases hun
      · obtain ⟨j, hj, hj2⟩ := List.any_eq_true.1 h1
        simp only [Bool.and_eq_true, decide_eq_true_eq, Bool.not_eq_true'] at hj2
        obtain ⟨⟨hij, hj0⟩, hw⟩ := hj2
        obtain ⟨oj, hoj, e, he, hb, hon⟩ := Region.waitsFor_spec hw
        have hjn : j ≤ n := by have := List.mem_range.1 hj; omega
        by_cases hjt : j = n
        · rw [hjt] at hoj
          obtain rfl : oj = ot := Option.some.inj (hoj.symm.trans hot)
          have := hall e he hb
          rw [hon, hun] at this
          cases this
        · cases hl : d.getD j false with
          | true =>
            have := h.closed j oj hoj hj0 hl e he hb
            rw [hon, hun] at this
            cases this
          | false => exact ih (n - j) (by omega) j rfl (by omega) hl t ht hr
    · have h1 := List.all_eq_true.1 hc t (List.mem_range.2 hts)
      simp only [Bool.or_eq_true, decide_eq_true_eq] at h1
      rcases h1 with (h1 | h1) | h1
      · omega
      · have := h.more t h1
        rw [getD_both htd] at this
        cases this
      · obtain ⟨s, hs1, hs2⟩ := List.any_eq_true.1 h1
        simp only [Bool.and_eq_true, decide_eq_true_eq, Bool.not_eq_true'] at hs2
        obtain ⟨⟨hns, hs0⟩, hw⟩ := hs2
        obtain ⟨o', ho', e, he, hb, hon⟩ := Region.waitsFor_spec hw
        obtain rfl : o' = ot := Option.some.inj (ho'.symm.trans hot)
        have := hall e he hb
        rw [hon, h.tail s hns (by have := List.mem_range.1 hs1; omega) hs0] at this
        cases this
theorem head_only {d : Array Bool} {i : Nat} (hs : sinkX ops d0 n = true) (hc : chainX ops d0 n = true) (h : InHead ops d0 n d) (hn : n < ops.size) (hi : i < n) (hr : i ∈ Region.ready .any ops d) :
    ∀ j ∈ Region.ready .any ops d, j < n := fun j hj =>
  Nat.lt_of_not_le fun hle => no_tail hs hc h hn _ i rfl hi (getD_both (mem_ready.1 hr).1) j hle hj

/-- f operations of the head are left, in whatever order; then L -/
def headQ (P : Program) (ops : Array Oper) (C : World → Prop) (n : Nat) (L : Array Bool → Act → Prop) : Nat → Array Bool → Act → Prop
  | 0, d, a => L d a
  | f + 1, d, a => Region.ready .any ops d ≠ [] ∧ ∀ i ∈ Region.ready .any ops d, i < n ∧ qOp P ops C i (headQ P ops C n L f (d.setIfInBounds i true)) a
theorem headQ_any {g : Nat} {Q : Exit → Act → World → Prop} (hL : ∀ d a w, C w → L d a → wpAny P .any ops Q g d a w) (f : Nat) :
    ∀ d a w, C w → headQ P ops C n L f d a → wpAny P .any ops Q (f + g) d a w := by
  induction f with
  | zero => intro d a w hC h; rw [Nat.zero_add]; exact hL d a w hC h
  | succ f ih =>
    intro d a w hC h
    rw [show f + 1 + g = (f + g) + 1 by omega]
    refine ⟨fun h0 => absurd h0 h.1, fun i hi => ?_⟩
    exact wpOp_of_qOp hC (fun a' w' hC' h' => ih _ a' w' hC' h') (h.2 i hi).2
/-- an operation of the head that may come up may come up first -/
theorem headQ_first {i : Nat} {oi : Oper} {v : Value} (hi : ops[i]? = some oi) (hsel : ∀ (j : Nat) (o : Oper) cs b, ops[j]? = some o → o.op ≠ .select cs b)
    (hs : sinkX ops d0 n = true) (hc : chainX ops d0 n = true) (hn : n < ops.size) (hin : i < n)
    (hL : ∀ d a, L d a → ∀ j ∈ Region.ready .any ops d, n ≤ j) (f : Nat) : ∀ d a, InHead ops d0 n d →
      (∀ j oj, ops[j]? = some oj → j ≠ i → d.getD j true = false → (∀ e ∈ oj.after, Region.binds .any e = true → e.on ≠ i) → oi.apart ops oj = true) →
      i ∈ Region.ready .any ops d → YieldsIn P ops C oi v a → headQ P ops C n L f (d.setIfInBounds i true) (a.put oi.dst v) → headQ P ops C n L (f + 1) d a := by
  induction f with
  | zero =>
    intro d a inv _ hr hy H
    refine ⟨fun h0 => (by rw [h0] at hr; cases hr), fun j hj => ⟨head_only hs hc inv hn hin hr j hj, ?_⟩⟩
    by_cases e : j = i
    · rw [e]; exact hy.qOp hi H
    · have h1 := hL _ _ H j (ready_mono hj e)
      have h2 := head_only hs hc inv hn hin hr j hj
      omega
  | succ f ih =>
    intro d a inv hfree hr hy H
    refine ⟨fun h0 => (by rw [h0] at hr; cases hr), fun j hj => ⟨head_only hs hc inv hn hin hr j hj, ?_⟩⟩
    by_cases e : j = i
    · rw [e]; exact hy.qOp hi H
    · obtain ⟨hjd, oj, hoj, hall⟩ := mem_ready.1 hj
      have hid := (mem_ready.1 hr).1
      have apart : oi.apart ops oj = true := hfree j oj hoj e hjd fun x hx hb hon => by
        have h1 := hall x hx hb
        rw [hon, getD_both hid] at h1
        cases h1
      have step := qOp_put hoj apart (fun cs b => hsel i oi cs b hi) (fun cs b => hsel j oj cs b hoj) hy (H.2 j (ready_mono hj e)).2
      refine qOp_mono (fun a' h => ih _ a' (inv.set hj (head_only hs hc inv hn hin hr j hj)) (fun k ok hk hki hun hno => hfree k ok hk hki ?_ hno) (ready_mono hr (fun h => e h.symm)) h.1 ?_) step
      · by_cases hjk : j = k
        · rw [← hjk]; exact hjd
        · rw [getD_set_ne true hjk] at hun; exact hun
      · rw [Array.setIfInBounds_comm _ _ e]; exact h.2
/-- the tail: one order alone -/
def seqX (ops : Array Oper) : List Nat → Array Bool → Bool
  | [], d => (Region.ready .any ops d).isEmpty
  | i :: is, d => decide (Region.ready .any ops d = [i]) && seqX ops is (d.setIfInBounds i true)
/-- the head: in the order given -/
def lexX (ops : Array Oper) (n : Nat) (ts : List Nat) : List Nat → Array Bool → Bool
  | [], d => seqX ops ts d
  | i :: is, d => decide (i < n) && (Region.ready .any ops d).contains i && Region.free .any ops d i && lexX ops n ts is (d.setIfInBounds i true)
def pick (ops : Array Oper) (is : List Nat) : List Oper := is.filterMap fun i => ops[i]?
theorem any_seqX {Q : Exit → Act → World → Prop} : ∀ (is : List Nat) (d : Array Bool) (a : Act) (w : World), seqX ops is d = true → wpList P ops Q (pick ops is) a w → wpAny P .any ops Q is.length d a w
  | [], _, _, _, hB, h => ⟨by simpa [seqX] using hB, h⟩
  | i :: is, d, a, w, hB, h => by
    simp only [seqX, Bool.and_eq_true, decide_eq_true_eq] at hB
    refine ⟨fun h1 => (by rw [hB.1] at h1; cases h1), fun j hj => ?_⟩
    rw [hB.1] at hj
    obtain rfl : j = i := by simpa using hj
    obtain ⟨_, oj, hoj, _⟩ := mem_ready.1 (show j ∈ Region.ready .any ops d by rw [hB.1]; simp)
    have e : pick ops (j :: is) = oj :: pick ops is := by simp [pick, hoj]
    rw [e] at h
    have hw : wpOp P ops Q j (wpList P ops Q (pick ops is)) a w := by unfold wpOp; simp only [hoj]; exact h
    exact wpOp_mono (fun a' w' h' => any_seqX is _ a' w' hB.2 h') hw
theorem seqX_ready {ts : List Nat} {d : Array Bool} (hts : ∀ t ∈ ts, n ≤ t) (h : seqX ops ts d = true) : ∀ j ∈ Region.ready .any ops d, n ≤ j := by
  cases ts with
  | nil => intro j hj; simp only [seqX, List.isEmpty_iff] at h; rw [h] at hj; cases hj
  | cons t ts =>
    intro j hj
    simp only [seqX, Bool.and_eq_true, decide_eq_true_eq] at h
    rw [h.1] at hj
    obtain rfl : j = t := by simpa using hj
    exact hts _ (by simp)
theorem headQ_lex {ts : List Nat} {R : Act → Prop} (hsel : Region.noSelect ops = true) (hs : sinkX ops d0 n = true) (hc : chainX ops d0 n = true) (hn : n < ops.size) (hts : ∀ t ∈ ts, n ≤ t) (l : List Nat) :
    ∀ d a, InHead ops d0 n d → lexX ops n ts l d = true → wpQuiet P ops C R (pick ops l) a → headQ P ops C n (fun d' a' => seqX ops ts d' = true ∧ R a') l.length d a := by
  induction l with
  | nil =>
    intro d a _ hB h
    exact ⟨hB, h⟩
  | cons k l ih =>
    intro d a inv hB h
    simp only [lexX, Bool.and_eq_true, decide_eq_true_eq] at hB
    obtain ⟨⟨⟨hkn, hr⟩, hf⟩, hB'⟩ := hB
    have hr' : k ∈ Region.ready .any ops d := by simpa using hr
    obtain ⟨_, o, h0, _⟩ := mem_ready.1 hr'
    have e : pick ops (k :: l) = o :: pick ops l := by simp [pick, h0]
    rw [e] at h
    have hq : qOp P ops C k (wpQuiet P ops C R (pick ops l)) a := by unfold qOp; simp only [h0]; exact h
    obtain ⟨v, hy, hK⟩ := yieldsIn_of_qOp h0 hq
    exact headQ_first h0 (Region.noSelect_spec hsel) hs hc hn hkn (fun d' a' h' => seqX_ready hts h'.1) l.length d a inv (Region.free_spec h0 hf) hr' hy (ih _ _ (inv.set hr' hkn) hB' hK)
/-- what the law asks of the region alone -/
def tailB (ops : Array Oper) (d0 : Array Bool) (n : Nat) (hs ts : List Nat) : Bool :=
  Region.noSelect ops && sinkX ops d0 n && chainX ops d0 n && decide (n < ops.size) && ts.all (fun t => decide (n ≤ t)) && decide (d0.size = ops.size) && lexX ops n ts hs d0
/-- the law, behind the operations of d0 -/
theorem any_quiet_tail {Q : Exit → Act → World → Prop} {a : Act} {w : World} (n : Nat) (hs ts : List Nat) (C : World → Prop) (hB : tailB ops d0 n hs ts = true) (hC : C w)
    (h : wpQuiet P ops C (fun a' => ∀ w', C w' → wpList P ops Q (pick ops ts) a' w') (pick ops hs) a) : wpAny P .any ops Q (hs.length + ts.length) d0 a w := by
  simp only [tailB, Bool.and_eq_true, decide_eq_true_eq, List.all_eq_true] at hB
  obtain ⟨⟨⟨⟨⟨⟨hsel, hs1⟩, hc⟩, hn⟩, hts⟩, hd⟩, hlex⟩ := hB
  have inv0 : InHead ops d0 n d0 := ⟨fun j oj _ h0 h1 => (by rw [h0] at h1; cases h1), fun _ h => h, fun _ _ _ h => h, hd⟩
  have H := headQ_lex (C := C) hsel hs1 hc hn hts hs d0 a inv0 hlex h
  exact headQ_any (Q := Q) (g := ts.length) (fun d a' w' hC' hd => any_seqX ts d a' w' hd.1 (hd.2 w' hC')) _ _ _ w hC H
/-- the law for a whole region -/
theorem region_quiet_tail {id : Nat} {Q : Exit → Act → World → Prop} {a : Act} {w : World} (n : Nat) (hs ts : List Nat) (C : World → Prop) (hm : P.follows .mixedOrders = true) (hB : tailB ops (Array.replicate ops.size false) n hs ts = true) (hl : hs.length + ts.length = ops.size) (hC : C w.drew)
    (h : wpQuiet P ops C (fun a' => ∀ w', C w' → wpList P ops Q (pick ops ts) a' w') (pick ops hs) a) : (Code.region id ops true).wp P Q a w := by
  have := any_quiet_tail n hs ts C hB hC h
  rw [hl] at this
  exact wp_region_any hm this
theorem held_of_any {Q : Exit → Act → World → Prop} : ∀ (f : Nat) (d : Array Bool) (a : Act) (w : World), wpAny P .any ops Q f d a w → wpAnyH P .any ops Q (fun _ => True) f d a w
  | 0, _, _, _, h => h
  | f + 1, _, _, _, h => ⟨h.1, fun i hi => wpOp_mono (fun a' w' h' => ⟨trivial, held_of_any f _ a' w' h'⟩) (h.2 i hi)⟩
/-- an operation that yields its value in whatever world may be taken first -/
theorem any_take {Q : Exit → Act → World → Prop} (i : Nat) {oi : Oper} {v : Value} {f : Nat} {d : Array Bool} {a : Act} {w : World} (hi : ops[i]? = some oi)
    (hs : Region.noSelect ops = true) (hf : Region.free .any ops d i = true) (hr : (Region.ready .any ops d).contains i = true)
    (hQ : ∀ c a w, Q (.panic c) (a.put oi.dst v) w → Q (.panic c) a w) (hy : YieldsIf P ops (fun _ => True) oi v a)
    (h : wpAny P .any ops Q f (d.setIfInBounds i true) (a.put oi.dst v) w) : wpAny P .any ops Q (f + 1) d a w :=
  wpAny_of_held _ _ _ _ (wpAnyH_take hi hs hf hr hQ hy trivial (held_of_any _ _ _ _ h))
/-- one operation of the head that yields a value in the world that it got -/
theorem quiet_val {R : Act → Prop} {a : Act} {o : Oper} {rest : List Oper} (v : Value) (hw : Region.wanted o (yielded ops a.tmps) = true) (h : ∀ W, C W → (execOp a.eval o).run P W = .ok (.value v) W)
    (hk : wpQuiet P ops C R rest (a.put o.dst v)) : wpQuiet P ops C R (o :: rest) a := by
  refine wpQuiet_step fun K hK => ?_
  rw [if_pos hw]
  exact ⟨v, fun W hW => by unfold Oper.quietAt; rw [h W hW]; exact ⟨rfl, rfl⟩, hK _ hk⟩
/-- one call of the head -/
theorem quiet_call {R : Act → Prop} {a : Act} {o : Oper} {rest : List Oper} (v : Value) (f : FuncId) (args : Array Value) (hw : Region.wanted o (yielded ops a.tmps) = true) (h : ∀ W, C W → (execOp a.eval o).run P W = .ok (.enter f args) W)
    (hc : ∀ W, C W → Calls P f args W fun e W' => e = .returned v ∧ C W') (hk : wpQuiet P ops C R rest (a.put o.dst v)) : wpQuiet P ops C R (o :: rest) a := by
  refine wpQuiet_step fun K hK => ?_
  rw [if_pos hw]
  exact ⟨v, fun W hW => by unfold Oper.quietAt; rw [h W hW]; exact ⟨rfl, hc W hW⟩, hK _ hk⟩
end
/-- two lists are laid in a new block -/
theorem wp_build2 {w : World} {ops : Array Oper} {rest : List Oper} {o : Oper} {a : Act} {Q : Exit → Act → World → Prop} (hgd : o.guard = none) (x y : Operand) (ho : o.op = .buildSlice 85 2 #[(0, x), (1, y)])
    (A B : List Bool) (hx : a.eval x = .agg (fl A)) (hy : a.eval y = .agg (fl B)) (N : Nat) (hN : w.heap.size = N)
    (h : ∀ w', Hid (LsAt w' N [A, B]) → Hid (Below N w w') → Hid (w'.heap.size = N + 1) → wpList Tryd.prog ops Q rest (a.put o.dst (.slice (some ⟨N, 0, none⟩) 2 2)) w') : wpList Tryd.prog ops Q (o :: rest) a w := by
  subst hN
  obtain ⟨cells, hlit, HLs⟩ := lits2 A B
  refine wpList_plain hgd fun K hK => ?_
  unfold Oper.wp execOp
  have e : (#[(0, x), (1, y)] : Array (Nat × Operand)).map (fun (i, x) => (i, a.eval x)) = #[(0, .agg (fl A)), (1, .agg (fl B))] := by simp [hx, hy]
  simp only [ho, e, Sem.run_bind, Sem.run_pure, hlit, Result.andThen_ok]
  exact hK _ _ (h _ (Lib.hid (HLs.out w)) (Lib.hid ((Below.refl _ w).alloc (Nat.le_refl _) _)) (Lib.hid (by simp)))
theorem wp_build3 {w : World} {ops : Array Oper} {rest : List Oper} {o : Oper} {a : Act} {Q : Exit → Act → World → Prop} (hgd : o.guard = none) (x y z : Operand) (ho : o.op = .buildSlice 85 3 #[(0, x), (1, y), (2, z)])
    (A B D : List Bool) (hx : a.eval x = .agg (fl A)) (hy : a.eval y = .agg (fl B)) (hz : a.eval z = .agg (fl D)) (N : Nat) (hN : w.heap.size = N)
    (h : ∀ w', Hid (LsAt w' N [A, B, D]) → Hid (Below N w w') → Hid (w'.heap.size = N + 1) → wpList Tryd.prog ops Q rest (a.put o.dst (.slice (some ⟨N, 0, none⟩) 3 3)) w') : wpList Tryd.prog ops Q (o :: rest) a w := by
  subst hN
  obtain ⟨cells, hlit, HLs⟩ := lits3 A B D
  refine wpList_plain hgd fun K hK => ?_
  unfold Oper.wp execOp
  have e : (#[(0, x), (1, y), (2, z)] : Array (Nat × Operand)).map (fun (i, x) => (i, a.eval x)) = #[(0, .agg (fl A)), (1, .agg (fl B)), (2, .agg (fl D))] := by simp [hx, hy, hz]
  simp only [ho, e, Sem.run_bind, Sem.run_pure, hlit, Result.andThen_ok]
  exact hK _ _ (h _ (Lib.hid (HLs.out w)) (Lib.hid ((Below.refl _ w).alloc (Nat.le_refl _) _)) (Lib.hid (by simp)))
end Go.Proofs.YtbdjpacmbaoaeaaDoor
