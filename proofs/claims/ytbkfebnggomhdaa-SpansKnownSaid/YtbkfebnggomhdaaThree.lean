/- Three rows of bools that grow beside each other. -/
import Derived.Test.YtbkfebnggomhdaaSofW
namespace Go.Proofs.Ytbkfebnggomhdaa
open Go.RowKit
theorem Try.info4 : (Try.prog.info? 4).map (fun i => (i.zero, i.size, i.bytes)) = some (some (.bool false), 1, 1) := by kernel_rfl
def bl (l : List Bool) : List Value := l.map Value.bool
def OwnB (w : World) (base : Nat) (v : Value) (l : List Bool) : Prop := w.ownsRow base 4 1 v l.length (bl l)
theorem bl_app (l : List Bool) (b : Bool) : bl (l ++ [b]) = bl l ++ [.bool b] := by simp [bl]
theorem OwnB.app {w : World} {base : Nat} {v : Value} {l : List Bool} {b : Bool} (h : w.ownsRow base 4 1 v (l.length + 1) (bl l ++ [.bool b])) : OwnB w base v (l ++ [b]) := by
  unfold OwnB; rw [bl_app, List.length_append]; exact h
theorem OwnB.rd {w : World} {base : Nat} {v : Value} {l : List Bool} (h : OwnB w base v l) : ∃ A c, v = .slice A l.length c ∧ l.length ≤ c ∧ RdB w w.heap.size A l := by
  rcases h.2 with ⟨hv, hn⟩ | ⟨g, cap, cur, hv, hb, hg, hnc, hcm, hcs, ht⟩
  · have : l = [] := List.eq_nil_of_length_eq_zero hn
    subst this
    exact ⟨none, 0, hv, Nat.le_refl _, fun k hk => absurd hk (by simp)⟩
  · subst hv
    refine ⟨_, _, rfl, hnc, fun k hk => ⟨g, 0, rfl, (Array.getElem?_eq_some_iff.1 hg).1, ?_⟩⟩
    rw [Nat.zero_add, h.cellAt k (by omega)]
    simp [bl, hk]
/-- three rows that share no block -/
structure Three (w : World) (base : Nat) (v1 v2 v3 : Value) (l1 l2 l3 : List Bool) : Prop where
  o1 : OwnB w base v1 l1
  o2 : OwnB w base v2 l2
  o3 : OwnB w base v3 l3
  d12 : ∀ g, v1.ownBlock = some g → v2.ownBlock ≠ some g
  d13 : ∀ g, v1.ownBlock = some g → v3.ownBlock ≠ some g
  d23 : ∀ g, v2.ownBlock = some g → v3.ownBlock ≠ some g
theorem Three.start (w : World) (base : Nat) : Three w base (.slice none 0 0) (.slice none 0 0) (.slice none 0 0) [] [] [] :=
  ⟨World.ownsRow_nil _ _ _ _, World.ownsRow_nil _ _ _ _, World.ownsRow_nil _ _ _ _, fun g h => by simp [Value.ownBlock] at h, fun g h => by simp [Value.ownBlock] at h, fun g h => by simp [Value.ownBlock] at h⟩
theorem Three.rot {w : World} {base : Nat} {v1 v2 v3 : Value} {l1 l2 l3 : List Bool} (h : Three w base v1 v2 v3 l1 l2 l3) : Three w base v2 v3 v1 l2 l3 l1 :=
  ⟨h.o2, h.o3, h.o1, h.d23, fun g h2 h1 => h.d12 g h1 h2, fun g h3 h1 => h.d13 g h1 h3⟩
theorem Three.drewN {w : World} {base : Nat} {v1 v2 v3 : Value} {l1 l2 l3 : List Bool} (h : Three w base v1 v2 v3 l1 l2 l3) (k : Nat) : Three (w.drewN k) base v1 v2 v3 l1 l2 l3 := ⟨h.o1, h.o2, h.o3, h.d12, h.d13, h.d23⟩
/-- the first row has grown -/
theorem Three.step {w w1 : World} {base : Nat} {v1 v2 v3 : Value} {l1 l2 l3 : List Bool} {o : Obj} {g cap : Nat} {b : Bool} (h : Three w base v1 v2 v3 l1 l2 l3)
    (hown : w1.ownsRow base 4 1 (.slice (some ⟨g, 0, none⟩) (l1.length + 1) cap) (l1.length + 1) (bl l1 ++ [.bool b])) (hg : (w.alloc o).grownBy w1 v1.ownBlock) (hat : v1.ownBlock = some g ∨ g = w.heap.size + 1) :
    Three w1 base (.slice (some ⟨g, 0, none⟩) (l1.length + 1) cap) v2 v3 (l1 ++ [b]) l2 l3 := by
  have ne2 : v2.ownBlock = none ∨ v2.ownBlock ≠ v1.ownBlock := by
    cases e : v2.ownBlock with
    | none => exact .inl rfl
    | some k => exact .inr fun e' => h.d12 k e'.symm e
  have ne3 : v3.ownBlock = none ∨ v3.ownBlock ≠ v1.ownBlock := by
    cases e : v3.ownBlock with
    | none => exact .inl rfl
    | some k => exact .inr fun e' => h.d13 k e'.symm e
  refine ⟨OwnB.app hown, World.ownsRow.kept (World.ownsRow.alloc h.o2 o) hg ne2, World.ownsRow.kept (World.ownsRow.alloc h.o3 o) hg ne3, fun k hk e => ?_, fun k hk e => ?_, h.d23⟩
  · have hk' : g = k := by simpa [Value.ownBlock] using hk
    subst hk'
    rcases hat with h1 | h1
    · exact h.d12 g h1 e
    · have := (World.ownsRow.lt h.o2 g e).2; omega
  · have hk' : g = k := by simpa [Value.ownBlock] using hk
    subst hk'
    rcases hat with h1 | h1
    · exact h.d13 g h1 e
    · have := (World.ownsRow.lt h.o3 g e).2; omega
theorem Three.below {w w1 : World} {base B : Nat} {a : World} {v1 v2 v3 : Value} {l1 l2 l3 : List Bool} {o : Obj} (h : Three w base v1 v2 v3 l1 l2 l3) (hg : (w.alloc o).grownBy w1 v1.ownBlock) (hb : Below B a w) (hB : B ≤ w.heap.size) (hBb : B ≤ base) : Below B a w1 :=
  (hb.alloc hB o).grown hg (by simp; omega) (fun k e => by have := (World.ownsRow.lt h.o1 k e).1; omega)

/-- the marks of an operation -/
def opM (f : Bool → Bool → Bool) (ms ns : List Bool) (k : Nat) : List Bool := (List.range k).map fun i => f (ms.getD i false) (ns.getD i false)
theorem opM_len (f : Bool → Bool → Bool) (ms ns : List Bool) (k : Nat) : (opM f ms ns k).length = k := by simp [opM]
theorem opM_succ (f : Bool → Bool → Bool) (ms ns : List Bool) (k : Nat) : opM f ms ns (k + 1) = opM f ms ns k ++ [f (ms.getD k false) (ns.getD k false)] := by simp [opM, List.range_succ]
theorem getD_big {ms : List Bool} {i : Nat} (h : ms.length ≤ i) : ms.getD i false = false := by simp [List.getD, List.getElem?_eq_none h]
theorem opM_mk {f : Bool → Bool → Bool} (h0 : f false false = false) (ms ns : List Bool) {n : Nat} (h1 : ms.length ≤ n) (h2 : ns.length ≤ n) (i : Int) : mkd (opM f ms ns n) i = f (mkd ms i) (mkd ns i) := by
  unfold mkd
  by_cases hi : 0 ≤ i
  · rw [decide_eq_true hi]
    simp only [Bool.true_and]
    by_cases hn : i.toNat < n
    · rw [show (opM f ms ns n).getD i.toNat false = f (ms.getD i.toNat false) (ns.getD i.toNat false) from by simp [opM, List.getD, hn]]
    · rw [getD_big (ms := opM f ms ns n) (by rw [opM_len]; omega), getD_big (ms := ms) (by omega), getD_big (ms := ns) (by omega), h0]
  · rw [decide_eq_false hi]; simp [h0]
end Go.Proofs.Ytbkfebnggomhdaa
