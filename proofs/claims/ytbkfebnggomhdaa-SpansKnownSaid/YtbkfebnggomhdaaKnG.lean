/- Three rows of any elements that grow beside each other; a row's cells as news. -/
import Derived.Test.YtbkfebnggomhdaaKnC
namespace Go.Proofs.Ytbkfebnggomhdaa
open Go.RowKit
structure G3 (w : World) (base : Nat) (e1 s1 : Nat) (v1 : Value) (n1 : Nat) (l1 : List Value) (e2 s2 : Nat) (v2 : Value) (n2 : Nat) (l2 : List Value) (e3 s3 : Nat) (v3 : Value) (n3 : Nat) (l3 : List Value) : Prop where
  o1 : w.ownsRow base e1 s1 v1 n1 l1
  o2 : w.ownsRow base e2 s2 v2 n2 l2
  o3 : w.ownsRow base e3 s3 v3 n3 l3
  d12 : ∀ g, v1.ownBlock = some g → v2.ownBlock ≠ some g
  d13 : ∀ g, v1.ownBlock = some g → v3.ownBlock ≠ some g
  d23 : ∀ g, v2.ownBlock = some g → v3.ownBlock ≠ some g
theorem G3.start (w : World) (base e1 s1 e2 s2 e3 s3 : Nat) : G3 w base e1 s1 (.slice none 0 0) 0 [] e2 s2 (.slice none 0 0) 0 [] e3 s3 (.slice none 0 0) 0 [] :=
  ⟨World.ownsRow_nil _ _ _ _, World.ownsRow_nil _ _ _ _, World.ownsRow_nil _ _ _ _, fun g h => by simp [Value.ownBlock] at h, fun g h => by simp [Value.ownBlock] at h, fun g h => by simp [Value.ownBlock] at h⟩
section
variable {w w1 a : World} {base B : Nat} {e1 s1 : Nat} {v1 : Value} {n1 : Nat} {l1 : List Value} {e2 s2 : Nat} {v2 : Value} {n2 : Nat} {l2 : List Value} {e3 s3 : Nat} {v3 : Value} {n3 : Nat} {l3 : List Value}
theorem G3.rot (h : G3 w base e1 s1 v1 n1 l1 e2 s2 v2 n2 l2 e3 s3 v3 n3 l3) : G3 w base e2 s2 v2 n2 l2 e3 s3 v3 n3 l3 e1 s1 v1 n1 l1 :=
  ⟨h.o2, h.o3, h.o1, h.d23, fun g h2 h1 => h.d12 g h1 h2, fun g h3 h1 => h.d13 g h1 h3⟩
theorem G3.step {o : Obj} {g m cap : Nat} {n1' : Nat} {l1' : List Value} (h : G3 w base e1 s1 v1 n1 l1 e2 s2 v2 n2 l2 e3 s3 v3 n3 l3)
    (hown : w1.ownsRow base e1 s1 (.slice (some ⟨g, 0, none⟩) m cap) n1' l1') (hg : (w.alloc o).grownBy w1 v1.ownBlock) (hat : v1.ownBlock = some g ∨ g = w.heap.size + 1) :
    G3 w1 base e1 s1 (.slice (some ⟨g, 0, none⟩) m cap) n1' l1' e2 s2 v2 n2 l2 e3 s3 v3 n3 l3 := by
  have ne2 : v2.ownBlock = none ∨ v2.ownBlock ≠ v1.ownBlock := by
    cases e : v2.ownBlock with
    | none => exact .inl rfl
    | some k => exact .inr fun e' => h.d12 k e'.symm e
  have ne3 : v3.ownBlock = none ∨ v3.ownBlock ≠ v1.ownBlock := by
    cases e : v3.ownBlock with
    | none => exact .inl rfl
    | some k => exact .inr fun e' => h.d13 k e'.symm e
  refine ⟨hown, World.ownsRow.kept (World.ownsRow.alloc h.o2 o) hg ne2, World.ownsRow.kept (World.ownsRow.alloc h.o3 o) hg ne3, fun k hk e => ?_, fun k hk e => ?_, h.d23⟩
  · have hk' : g = k := by simpa [Value.ownBlock] using hk
    subst hk'
    rcases hat with h1 | h1
    · exact h.d12 g h1 e
    · have := (World.ownsRow.lt h.o2 g e).2; omega
  · have hk' : g = k := by simpa [Value.ownBlock] using hk
    subst hk'
    rcases hat with h1 | h1
    · exact h.d13 g h1 e
    · have := (World.ownsRow.lt h.o3 g e).2; omega
theorem G3.below {o : Obj} (h : G3 w base e1 s1 v1 n1 l1 e2 s2 v2 n2 l2 e3 s3 v3 n3 l3) (hg : (w.alloc o).grownBy w1 v1.ownBlock) (hb : Below B a w) (hB : B ≤ w.heap.size) (hBb : B ≤ base) : Below B a w1 :=
  (hb.alloc hB o).grown hg (by simp; omega) (fun k e => by have := (World.ownsRow.lt h.o1 k e).1; omega)
end
def iI (l : List Int) : List Value := l.map (Value.int .i64)
theorem ev_flat (n : Nat) : flat (ev (n + 1)) = flat (ev n) ++ [.int .i64 (4 * (n : Int)), .int .i64 (4 * (n : Int) + 1)] := by rw [ev_succ, flat_app]; rfl
theorem od_flat (n : Nat) : flat (od (n + 1)) = flat (od n) ++ [.int .i64 (4 * (n : Int) + 2), .int .i64 (4 * (n : Int) + 3)] := by rw [od_succ, flat_app]; rfl
theorem pl_flat (n : Nat) : iI (pl (n + 1)) = iI (pl n) ++ [.int .i64 (4 * (n : Int))] := by rw [pl_succ]; simp [iI]
theorem ev_flat0 : flat (ev 0) = [] := by unfold ev; rfl
theorem od_flat0 : flat (od 0) = [] := by unfold od; rfl
theorem pl_flat0 : iI (pl 0) = [] := by unfold pl; rfl
theorem rowI {w : World} {base n : Nat} {v : Value} {zs : List Int} (h : w.ownsRow base 3 1 v n (iI zs)) (hn : zs.length = n) : ∃ A c, v = .slice A n c ∧ n ≤ c ∧ RdI w w.heap.size A zs := by
  subst hn
  rcases h.2 with ⟨hv, hn⟩ | ⟨g, cap, cur, hv, hb, hg, hnc, hcm, hcs, ht⟩
  · have : zs = [] := List.eq_nil_of_length_eq_zero hn
    subst this
    exact ⟨none, 0, hv, Nat.le_refl _, RdI.nil⟩
  · subst hv
    refine ⟨_, _, rfl, hnc, fun k hk => ⟨g, 0, rfl, (Array.getElem?_eq_some_iff.1 hg).1, ?_⟩⟩
    rw [Nat.zero_add, h.cellAt k (by omega)]
    simp [iI, hk]
theorem rowS {w : World} {base n : Nat} {v : Value} {xs : List Sp} (h : w.ownsRow base 28 2 v n (flat xs)) (hn : xs.length = n) : ∃ A c, v = .slice A n c ∧ n ≤ c ∧ Rd w w.heap.size A xs := by
  subst hn
  exact Own.rd (e := 28) h
theorem Rd.newsF {w : World} {B b o : Nat} {xs : List Sp} (h : Rd w B (some ⟨b, o, none⟩) xs) (j : Nat) (u : Value) (hu : (flat xs)[j]? = some u) : w.cell? ((⟨b, o, none⟩ : Addr).add j) = some u := by
  rw [add_plain0]
  have hj : j < xs.length * 2 := by
    have := (List.getElem?_eq_some_iff.1 hu).1
    rwa [flat_len] at this
  have hk : j / 2 < xs.length := by omega
  obtain ⟨b', o', e, _, h1, h2⟩ := h (j / 2) hk
  injection e with e
  injection e with e1 e2
  subst e1; subst e2
  obtain ⟨f1, f2⟩ := flat_get xs (j / 2) hk
  rcases Nat.mod_two_eq_zero_or_one j with hm | hm
  · rw [show j / 2 * 2 = j from by omega] at f1 h1
    rw [h1, ← hu, f1]
  · rw [show j / 2 * 2 + 1 = j from by omega] at f2
    rw [show o + j / 2 * 2 + 1 = o + j from by omega] at h2
    rw [h2, ← hu, f2]
theorem flat_cell (xs : List Sp) : ∀ u ∈ flat xs, u.oneCell' = true := by
  intro u hu
  obtain ⟨s, _, hs⟩ := List.mem_flatMap.1 hu
  simp only [List.mem_cons, List.not_mem_nil, or_false] at hs
  rcases hs with rfl | rfl <;> rfl
end Go.Proofs.Ytbkfebnggomhdaa
