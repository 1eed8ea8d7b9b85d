/- What the walks of the law SpansErrors share. -/
import Derived.Test.YtbkfebnggomhdaaLvAux
import Derived.Test.YtbkfebnggomhdaaRefCW
import Derived.Test.YtbkfebnggomhdaaMath5
namespace Go.Proofs.Ytbkfebnggomhdaa
open Go.RowKit
def Lives5 : Prop := ∀ w : World, Calls Try.prog 9 #[] w fun e w' => e = .returned (.bool true) ∧ Below w.heap.size w w'
/-- pairs, then the reference's Check -/
def PairsC (A : Option Addr) (n c : Nat) (xs : List Sp) : Prop := ∀ W, Rd W W.heap.size A xs → Calls Try.prog 11 #[.slice A n c] W fun e w' => ∃ B d, e = .returned (.slice B n d) ∧ n ≤ d ∧ Rd w' w'.heap.size B xs ∧ Below W.heap.size W w'
theorem pairsC (A : Option Addr) (c : Nat) (xs : List Sp) (hl : xs.length ≤ 1000000) : PairsC A xs.length c xs := fun W h =>
  (pairs_any A c xs W h (by omega)).mono fun e w' ⟨v, he, ho, hb⟩ => by
    obtain ⟨B, d, rfl, hd, hr⟩ := ho.rd
    exact ⟨B, d, he, hd, hr, hb⟩
def RefC (n : Nat) (xs : List Sp) (p : Int) : Prop := ∀ B d W, Rd W W.heap.size B xs → Calls Try.prog 10 #[.slice B n d] W fun e w' => e = .returned (.int .i64 p) ∧ Below W.heap.size W w'
theorem refC {xs : List Sp} {p : Int} (hp : chk xs = p) (hl : xs.length ≤ 1000000) : RefC xs.length xs p := fun B d W h => by subst hp; exact refCheck_any B d xs W h (by omega)
/-- an operation that returns want, and nothing beside an error -/
def OpErr (f : Nat) (A B : Option Addr) (n c m d : Nat) (xs ys : List Sp) (want : Int) : Prop := ∀ W, Rd W W.heap.size A xs → Rd W W.heap.size B ys →
  Calls Try.prog f #[.slice A n c, .slice B m d] W fun e w' => e = .returned (.tuple #[.slice none 0 0, .int .i64 want]) ∧ Below W.heap.size W w'
theorem opErr {f : Nat} {keep : Bool → Bool → Bool} (H : OpSaid f keep) {A B : Option Addr} {c d : Nat} {xs ys : List Sp} {want : Int} (hw : chk2 xs ys = want) (h0 : want ≠ 0) (hlx : xs.length ≤ 40) (hly : ys.length ≤ 40) (hc : xs.length ≤ c) (hd : ys.length ≤ d) :
    OpErr f A B xs.length c ys.length d xs ys want := fun W hA hB => by
  subst hw
  exact (H A B c d xs ys W hA hB (by omega) (by omega) hc hd).mono fun e w' h => ⟨h.1.err h0, h.2⟩
/-- an operation that returns a set -/
def OpSet (f : Nat) (A B : Option Addr) (n c m d : Nat) (xs ys : List Sp) : Prop := ∀ W, Rd W W.heap.size A xs → Rd W W.heap.size B ys →
  Calls Try.prog f #[.slice A n c, .slice B m d] W fun e w' => (∃ E k, e = .returned (.tuple #[.slice E k k, .int .i64 0])) ∧ Below W.heap.size W w'
theorem opSet {f : Nat} {keep : Bool → Bool → Bool} (H : OpSaid f keep) {A B : Option Addr} {c d : Nat} {xs ys : List Sp} (h1 : chk xs = 0) (h2 : chk ys = 0) (hlx : xs.length ≤ 40) (hly : ys.length ≤ 40) (hc : xs.length ≤ c) (hd : ys.length ≤ d) :
    OpSet f A B xs.length c ys.length d xs ys := fun W hA hB =>
  (H A B c d xs ys W hA hB (by omega) (by omega) hc hd).mono fun e w' h => by
    refine ⟨?_, h.2⟩
    rcases h.1 with ⟨_, out, hv, hi, hr⟩ | ⟨hne, _⟩
    · have hlen := op_len (val_of_chk h1) (val_of_chk h2) hv hi
      rcases hr with ⟨_, E, he, _⟩ | ⟨hbad, _⟩
      · exact ⟨E, _, he⟩
      · omega
    · exact absurd (by unfold chk2; rw [if_pos h1]; exact h2) hne
def MvErr (f : Nat) (A : Option Addr) (n c : Nat) (xs : List Sp) (a m k : Int) : Prop := ∀ W, Rd W W.heap.size A xs → Calls Try.prog f #[.slice A n c, .int .i64 a, .int .i64 m] W fun e w' => e = .returned (.tuple #[.slice none 0 0, .int .i64 k]) ∧ Below W.heap.size W w'
theorem insErr {A : Option Addr} {c : Nat} {xs : List Sp} {a m k : Int} (h : inC xs a m = k) (h0 : k ≠ 0) (hl : xs.length ≤ 40) : MvErr 25 A xs.length c xs a m k := fun W hA => by
  subst h; exact (ins_any A c xs a m W hA (by omega)).mono fun e w' h => ⟨h.1.err h0, h.2⟩
theorem remErr {A : Option Addr} {c : Nat} {xs : List Sp} {a m k : Int} (h : rmC xs a m = k) (h0 : k ≠ 0) (hl : xs.length ≤ 40) : MvErr 26 A xs.length c xs a m k := fun W hA => by
  subst h; exact (rem_any A c xs a m W hA (by omega)).mono fun e w' h => ⟨h.1.err h0, h.2⟩
/-- a list L that is handed back with no error -/
def MvSet (f : Nat) (A : Option Addr) (n c : Nat) (xs L : List Sp) (k : Nat) (a m : Int) : Prop := ∀ W, Rd W W.heap.size A xs → Calls Try.prog f #[.slice A n c, .int .i64 a, .int .i64 m] W fun e w' => Made L k W e w'
theorem OpRes.out {c : Int} {m : Int → Bool} {e : Ending} {w' : World} (h : OpRes c m e w') (hc : c = 0) : ∃ out, Val (-1) out ∧ ∀ i, hasB out i = m i := by
  rcases h with ⟨_, out, hv, hi, _⟩ | ⟨hne, _⟩
  · exact ⟨out, hv, hi⟩
  · exact absurd hc hne
/-- the places that go are as many as fit -/
theorem goneTo_bd {xs : List Sp} {a n : Int} (hv : Val (-1) xs) (ha : 0 ≤ a) (hn : 0 ≤ n) : ∀ k, k ≤ xs.length → 0 ≤ goneTo xs a (a + n) k ∧ goneTo xs a (a + n) k ≤ k * 1073741824
  | 0, _ => ⟨Int.le_refl _, Int.le_refl _⟩
  | k + 1, hk => by
    have hlt : k < xs.length := by omega
    have ih := goneTo_bd hv ha hn k (by omega)
    obtain ⟨v1, v2, v3⟩ := val_take hv hlt
    have hge := endOf_ge (goneTo_cnt.val_pre hv k)
    have hget : xs.getD k (0, 0) = xs[k] := by simp [List.getD, List.getElem?_eq_getElem hlt]
    unfold goneTo
    rw [hget]
    omega
theorem sum_bd0 {l : Int} {xs : List Sp} (hv : Val l xs) : 0 ≤ sumB 0 xs ∧ sumB 0 xs ≤ max 0 (1073741824 - l) := by
  induction xs generalizing l with
  | nil => show (0 : Int) ≤ 0 ∧ (0 : Int) ≤ _; omega
  | cons s r ih =>
    obtain ⟨h1, h2, h3, h4⟩ := hv
    have := ih h4
    rw [sumB_cons]; omega
theorem sum_bd {xs : List Sp} (hv : Val (-1) xs) : 0 ≤ sumB 0 xs ∧ sumB 0 xs ≤ 44023414784 := by
  have := sum_bd0 hv
  omega
theorem below_allocN (W : World) (o : Obj) : Below W.heap.size W (W.alloc o) := (Below.refl _ _).alloc (Nat.le_refl _) o
end Go.Proofs.Ytbkfebnggomhdaa
