/- The walks of the reference's Remove and Insert. -/
import Derived.Test.YtfkjnepafgehiaaDeepA
namespace Go.Proofs.Ytfkjnepafgehiaa
open Go.RowKit

/-- a new row and an error are returned -/
def RowN (r : List Int × Int) (w : World) (e : Ending) (w' : World) : Prop := ∃ A c, e = .returned (.tuple #[.slice A r.1.length c, .int .i64 r.2]) ∧ SlI w' A c r.1 ∧ Below w.heap.size w w' ∧ ∀ a, A = some a → w.heap.size ≤ a.block
theorem rowN_err {f : Int} {w : World} : RowN ([], f) w (.returned (.tuple #[.slice none 0 0, .int .i64 f])) w := ⟨none, 0, rfl, ⟨RdI.nil, Nat.le_refl _, by omega, fun _ => rfl⟩, Below.refl _ _, fun _ h => by cases h⟩
theorem rowN_own {l : List Int} {w W : World} {v : Value} (h : OwnI W w.heap.size v l) (hb : Below w.heap.size w W) : RowN (l, 0) w (.returned (.tuple #[v, .int .i64 0])) W := by
  obtain ⟨A, c, rfl, hs⟩ := h.sl
  refine ⟨A, c, rfl, hs, hb, fun a ha => ?_⟩
  subst ha
  rcases h.2 with ⟨hv2, _⟩ | ⟨g, cap, cur, hv2, hg, _⟩
  · injection hv2 with e; cases e
  · injection hv2 with e
    cases e
    exact hg
set_option maxHeartbeats 2000000 in
theorem refRem_bad {w : World} {A : Option Addr} {c : Nat} {l : List Int} (i n : Int) (hi2 : i ≤ 9223372036854775807) (_hn2 : n ≤ 9223372036854775807) (_hl : l.length ≤ 4096) (h : i < 0 ∨ n < 0 ∨ (l.length : Int) - i < n) :
    Calls Try.prog 29 #[.slice A l.length c, .int .i64 i, .int .i64 n] w (RowN ([], 4) w) := by
  rcases (show i < 0 ∨ (¬ (i < 0) ∧ n < 0) ∨ (¬ (i < 0) ∧ ¬ (n < 0) ∧ (l.length : Int) < i) ∨ (¬ (i < 0) ∧ ¬ (n < 0) ∧ ¬ ((l.length : Int) < i) ∧ (l.length : Int) - i < n) by omega) with h | ⟨h, h2⟩ | ⟨h, h2, h3⟩ | ⟨h, h2, h3, h4⟩
  all_goals
    go_enter Try.func29, Try.ntmps29
    go_wp2_with fail
    go_ret2
    exact rowN_err
set_option maxHeartbeats 4000000 in
theorem refRem_ok {w : World} {A : Option Addr} {c : Nat} {l : List Int} (h : SlI w A c l) (i n : Nat) (hi : i + n ≤ l.length) (hl : l.length ≤ 4096) :
    Calls Try.prog 29 #[.slice A l.length c, .int .i64 i, .int .i64 n] w (RowN (l.take i ++ l.drop (i + n), 0) w) := by
  have hle := h.le
  have hmx := h.max
  have HS := Lib.hid h
  have hti : (l.take i).length = i := by rw [List.length_take]; omega
  obtain ⟨q, hq⟩ : ∃ q : Nat, i + n = q := ⟨_, rfl⟩
  have hql : q ≤ l.length := by omega
  have hdl : (l.drop q).length = l.length - q := List.length_drop
  have HO : Hid (OwnI ((w.alloc (.cells #[] 2)).drew) w.heap.size (.slice (some ⟨w.heap.size, 0, none⟩) 0 0) []) := Lib.hid (made0 w)
  have HB : Hid (Below w.heap.size w ((w.alloc (.cells #[] 2)).drew)) := Lib.hid ((Below.refl w.heap.size w).alloc (Nat.le_refl _) _).drew
  have HS0 := Lib.hid ((HS.out.below HB.out).head i)
  obtain ⟨A2, hA2⟩ : ∃ A2, (if c = q then A else A.map fun x => x.add q) = A2 := ⟨_, rfl⟩
  have HP : Hid (∀ w', Below w.heap.size w w' → SlI w' A2 (c - q) (l.drop q)) := Lib.hid (fun w' hb => by
    have := (HS.out.below hb).rest q hql
    rw [hA2] at this
    exact this)
  have HQ := Lib.hid hq
  rw [hq]
  clear h
  go_enter Try.func29, Try.ntmps29
  go_wp2_with fail
  have hwq : IntKind.i64.wrap ((i : Int) + (n : Int)) = (q : Int) := by rw [← Int.natCast_add, HQ.out]; exact IntWalk.i64_in _ (by omega)
  have z0 : (0 : Int) ≤ (i : Int) := by omega
  have z1 : (i : Int) ≤ (c : Int) := by omega
  have z2 : (0 : Int) ≤ (q : Int) := by omega
  have z3 : (q : Int) ≤ (l.length : Int) := by omega
  clear hq
  go_region_law (first
      | (refine step_app rfl (.tmp 28) (.tmp 31) rfl w.heap.size _ [] rfl A c (l.take i) i rfl hti.symm HO.out HS0.out (by simp; omega) HB.out.size ?_
         intro v1 w1 H1 B1)
      | (refine step_app rfl (.tmp 32) (.tmp 37) rfl w.heap.size v1 ([] ++ l.take i) rfl A2 (c - q) (l.drop q) (l.length - q) rfl hdl.symm H1.out (HP.out _ (HB.out.trans B1.out)) (by simp only [List.nil_append]; omega) (HB.out.trans B1.out).size ?_
         intro v3 w3 H3 B3))
  go_wp2_with fail
  go_ret2
  exact rowN_own (by have := H3.out; rwa [List.nil_append] at this) ((HB.out.trans B1.out).trans B3.out)
theorem refRem_any {w : World} {A : Option Addr} {c : Nat} {l : List Int} (h : SlI w A c l) (i n : Int) (hi2 : i ≤ 9223372036854775807) (hn2 : n ≤ 9223372036854775807) (hl : l.length ≤ 4096) :
    Calls Try.prog 29 #[.slice A l.length c, .int .i64 i, .int .i64 n] w (RowN (remR l i n) w) := by
  unfold remR
  rcases partE_two l.length i n with hp | hp
  · rw [if_pos hp]
    obtain ⟨a, b, rfl, rfl, hab⟩ := partE_cases hp
    exact refRem_ok h a b hab hl
  · rw [if_neg (by rw [hp]; decide)]
    refine refRem_bad i n hi2 hn2 hl ?_
    unfold partE at hp
    split at hp
    · assumption
    · exact absurd hp (by decide)
end Go.Proofs.Ytfkjnepafgehiaa
