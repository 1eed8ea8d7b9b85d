/- The calls that the examples of the chapter make, at their arguments. -/
import Derived.Test.YtbkfebnggomhdaaMvW
import Derived.Test.YtbkfebnggomhdaaRefW
import Derived.Test.YtbkfebnggomhdaaPairsW
import Derived.Test.YtbkfebnggomhdaaSameW
namespace Go.Proofs.Ytbkfebnggomhdaa
open Go.RowKit

theorem Rd.next {W W' : World} {A : Option Addr} {xs : List Sp} (h : Rd W W.heap.size A xs) (hb : Below W.heap.size W W') : Rd W' W'.heap.size A xs := (h.below hb).more hb.size
theorem below_alloc (W : World) (o : Obj) : Below W.heap.size W (W.alloc o) := (Below.refl _ _).alloc (Nat.le_refl _) o
theorem Rd.lit {W : World} {t : TypeId} {cs : Array Value} {xs : List Sp} (h : (flat xs).toArray = cs) : Rd (W.alloc (.cells cs t)) (W.alloc (.cells cs t)).heap.size (some ⟨W.heap.size, 0, none⟩) xs := fun k hk => by
  obtain ⟨f1, f2⟩ := flat_get xs k hk
  refine ⟨W.heap.size, 0, rfl, by simp, ?_, ?_⟩
  · rw [cell_of_row _ _ _ _ _ (0, 0) (heap_alloc_new W _), ← h]; simpa using f1
  · rw [cell_of_row _ _ _ _ _ (0, 0) (heap_alloc_new W _), ← h]; simpa using f2
theorem RdI.lit {W : World} {t : TypeId} {cs : Array Value} {zs : List Int} (h : (zs.map (Value.int .i64)).toArray = cs) : RdI (W.alloc (.cells cs t)) (W.alloc (.cells cs t)).heap.size (some ⟨W.heap.size, 0, none⟩) zs := fun k hk => by
  refine ⟨W.heap.size, 0, rfl, by simp, ?_⟩
  rw [cell_of_row _ _ _ _ _ (0, 0) (heap_alloc_new W _), ← h]; simp [hk]

theorem SetRes.get {m : Int → Bool} {e : Ending} {w' : World} (h : SetRes m e w') (L : List Sp) (hv : Val (-1) L) (hm : ∀ i, m i = hasB L i) (hl : L.length ≤ 4096) :
    ∃ A, e = .returned (.tuple #[.slice A L.length L.length, .int .i64 0]) ∧ Rd w' w'.heap.size A L := by
  obtain ⟨out, ho, hi, hr⟩ := h
  obtain rfl : out = L := val_ext ho hv (fun i => (hi i).trans (hm i))
  rcases hr with ⟨_, A, he, hrd⟩ | ⟨hbad, _⟩
  · exact ⟨A, he, hrd⟩
  · omega
theorem OpRes.get {c : Int} {m : Int → Bool} {e : Ending} {w' : World} (h : OpRes c m e w') (hc : c = 0) (L : List Sp) (hv : Val (-1) L) (hm : ∀ i, m i = hasB L i) (hl : L.length ≤ 4096) :
    ∃ A, e = .returned (.tuple #[.slice A L.length L.length, .int .i64 0]) ∧ Rd w' w'.heap.size A L := by
  rcases h with ⟨_, hs⟩ | ⟨hne, _⟩
  · exact hs.get L hv hm hl
  · exact absurd hc hne
theorem OpRes.err {c : Int} {m : Int → Bool} {e : Ending} {w' : World} (h : OpRes c m e w') (hc : c ≠ 0) : e = .returned (.tuple #[.slice none 0 0, .int .i64 c]) := by
  rcases h with ⟨h0, _⟩ | ⟨_, he⟩
  · exact absurd h0 hc
  · exact he

/-- what a call hands back that makes the set L -/
def Made (L : List Sp) (n : Nat) (W : World) (e : Ending) (w' : World) : Prop :=
  ∃ A, e = .returned (.tuple #[.slice A n n, .int .i64 0]) ∧ Rd w' w'.heap.size A L ∧ Below W.heap.size W w'
theorem Made.of {c : Int} {m : Int → Bool} {W : World} {e : Ending} {w' : World} {L : List Sp} {n : Nat} (h : OpRes c m e w' ∧ Below W.heap.size W w') (hc : c = 0) (hv : Val (-1) L) (hm : ∀ i, m i = hasB L i) (hl : L.length ≤ 4096) (hn : L.length = n) : Made L n W e w' := by
  subst hn
  obtain ⟨A, he, hr⟩ := h.1.get hc L hv hm hl
  exact ⟨A, he, hr, h.2⟩

theorem of_lit {W : World} {n : Nat} {cs : Array Value} (xs : List Sp) (hn : xs.length = n) (hcs : (flat xs).toArray = cs) (hl : xs.length ≤ 1000000) :
    Calls Try.prog 29 #[.slice (some ⟨W.heap.size, 0, none⟩) n n] (W.alloc (.cells cs 51)) fun e w' => ∃ A c, e = .returned (.slice A n c) ∧ n ≤ c ∧ Rd w' w'.heap.size A xs ∧ Below W.heap.size W w' := by
  subst hn
  refine (of_any _ _ xs _ (Rd.lit hcs) (by omega)).mono ?_
  rintro e w' ⟨v, rfl, ho, hb⟩
  obtain ⟨A, c, rfl, hc, hrd⟩ := ho.rd
  exact ⟨A, c, rfl, hc, hrd, (below_alloc W _).trans (hb.mono (by simp))⟩
theorem same_lit {W : World} {A : Option Addr} {n : Nat} {cs : Array Value} (xs : List Sp) (hA : Rd W W.heap.size A xs) (hn : xs.length = n) (hcs : (flat xs).toArray = cs) (hl : xs.length ≤ 1000000) :
    Calls Try.prog 17 #[.slice A n n, .int .i64 0, .slice (some ⟨W.heap.size, 0, none⟩) n n, .int .i64 0] (W.alloc (.cells cs 51)) fun e w' => e = .returned (.bool true) ∧ Below W.heap.size W w' := by
  subst hn
  refine (same_any A _ xs 0 _ _ xs 0 _ (hA.next (below_alloc W _)) (Rd.lit hcs) (by omega) (by omega) (by omega)).mono ?_
  rintro e w' ⟨rfl, hb⟩
  exact ⟨ret_bool (sameB_t rfl rfl rfl), (below_alloc W _).trans (hb.mono (by simp))⟩
theorem same_nil {W : World} {A : Option Addr} (k : Int) :
    Calls Try.prog 17 #[.slice A 0 0, .int .i64 k, .slice none 0 0, .int .i64 k] W fun e w' => e = .returned (.bool true) ∧ Below W.heap.size W w' := by
  refine (same_any A 0 [] k none 0 [] k W Rd.nil Rd.nil (by simp) (by simp) (by omega)).mono ?_
  rintro e w' ⟨rfl, hb⟩
  exact ⟨ret_bool (sameB_t rfl rfl rfl), hb⟩
theorem check_at {W : World} {A : Option Addr} {n c : Nat} {k : Int} (xs : List Sp) (hA : Rd W W.heap.size A xs) (hn : xs.length = n) (hk : chk xs = k) (hl : xs.length ≤ 1000000) :
    Calls Try.prog 12 #[.slice A n c] W fun e w' => e = .returned (.int .i64 k) ∧ Below W.heap.size W w' := by
  subst hn; subst hk
  exact check_any A c xs W hA (by omega)
theorem op_at {f : Nat} {keep : Bool → Bool → Bool} (H : OpSaid f keep) {W : World} {A B : Option Addr} {n c m d k : Nat} (xs ys L : List Sp) (hA : Rd W W.heap.size A xs) (hB : Rd W W.heap.size B ys) (hn : xs.length = n) (hm : ys.length = m) (hc : n ≤ c) (hd : m ≤ d)
    (hlx : xs.length ≤ 1000000) (hly : ys.length ≤ 1000000) (h0 : chk2 xs ys = 0) (hv : Val (-1) L) (hk : ∀ i, keep (hasB xs i) (hasB ys i) = hasB L i) (hL : L.length ≤ 4096) (hLk : L.length = k) :
    Calls Try.prog f #[.slice A n c, .slice B m d] W fun e w' => Made L k W e w' := by
  subst hn; subst hm
  exact (H A B c d xs ys W hA hB (by omega) (by omega) hc hd).mono fun e w' h => Made.of h h0 hv hk hL hLk
theorem ins_at {W : World} {A : Option Addr} {n c k : Nat} {a m : Int} (xs L : List Sp) (hA : Rd W W.heap.size A xs) (hn : xs.length = n) (hlx : xs.length ≤ 1000000) (h0 : inC xs a m = 0) (hv : Val (-1) L) (hk : ∀ i, insM xs a m i = hasB L i) (hL : L.length ≤ 4096) (hLk : L.length = k) :
    Calls Try.prog 25 #[.slice A n c, .int .i64 a, .int .i64 m] W fun e w' => Made L k W e w' := by
  subst hn
  exact (ins_any A c xs a m W hA (by omega)).mono fun e w' h => Made.of h h0 hv hk hL hLk
theorem rem_at {W : World} {A : Option Addr} {n c k : Nat} {a m : Int} (xs L : List Sp) (hA : Rd W W.heap.size A xs) (hn : xs.length = n) (hlx : xs.length ≤ 1000000) (h0 : rmC xs a m = 0) (hv : Val (-1) L) (hk : ∀ i, remM xs a m i = hasB L i) (hL : L.length ≤ 4096) (hLk : L.length = k) :
    Calls Try.prog 26 #[.slice A n c, .int .i64 a, .int .i64 m] W fun e w' => Made L k W e w' := by
  subst hn
  exact (rem_any A c xs a m W hA (by omega)).mono fun e w' h => Made.of h h0 hv hk hL hLk
theorem ofF_lit (hS : SortsOk) {W : World} {n k : Nat} {cs : Array Value} (zs : List Int) (L : List Sp) (hn : zs.length = n) (hcs : (zs.map (Value.int .i64)).toArray = cs) (hl : zs.length ≤ 1000000) (h0 : ofC zs = 0) (hv : Val (-1) L) (hk : ∀ i, decide (i ∈ zs) = hasB L i) (hL : L.length ≤ 4096) (hLk : L.length = k) :
    Calls Try.prog 16 #[.slice (some ⟨W.heap.size, 0, none⟩) n n] (W.alloc (.cells cs 3)) fun e w' => Made L k W e w' := by
  subst hn
  refine (ofF_any hS _ _ zs _ (RdI.lit hcs) (by omega)).mono fun e w' h => ?_
  obtain ⟨A, h1, h2, h3⟩ := Made.of h h0 hv hk hL hLk
  exact ⟨A, h1, h2, (below_alloc W _).trans (h3.mono (by simp))⟩
theorem ofF_bad (hS : SortsOk) {W : World} {n : Nat} {cs : Array Value} (zs : List Int) (hn : zs.length = n) (hcs : (zs.map (Value.int .i64)).toArray = cs) (hl : zs.length ≤ 1000000) (h0 : ofC zs = 4) :
    Calls Try.prog 16 #[.slice (some ⟨W.heap.size, 0, none⟩) n n] (W.alloc (.cells cs 3)) fun e w' => e = .returned (.tuple #[.slice none 0 0, .int .i64 4]) ∧ Below W.heap.size W w' := by
  subst hn
  refine (ofF_any hS _ _ zs _ (RdI.lit hcs) (by omega)).mono fun e w' h => ?_
  have := h.1.err (by rw [h0]; decide)
  rw [h0] at this
  exact ⟨this, (below_alloc W _).trans (h.2.mono (by simp))⟩
theorem ofF_nil (hS : SortsOk) {W : World} : Calls Try.prog 16 #[.slice none 0 0] W fun e w' => Made [] 0 W e w' :=
  (ofF_any hS none 0 [] W RdI.nil (by simp)).mono fun e w' h => Made.of h rfl trivial (fun _ => rfl) (by simp) rfl
theorem count_at {W : World} {A : Option Addr} {n c : Nat} {k : Int} (xs : List Sp) (hA : Rd W W.heap.size A xs) (hn : xs.length = n) (hk : cnt xs = k) (hl : xs.length ≤ 1000000) :
    Calls Try.prog 15 #[.slice A n c] W fun e w' => e = .returned (.int .i64 k) ∧ Below W.heap.size W w' := by
  subst hn; subst hk
  exact count_any A c xs W hA (by omega)
theorem has_at {W : World} {A : Option Addr} {n c : Nat} {i : Int} {b : Bool} (xs : List Sp) (hA : Rd W W.heap.size A xs) (hn : xs.length = n) (hk : hasS xs i = b) (hl : xs.length ≤ 1000000) :
    Calls Try.prog 13 #[.slice A n c, .int .i64 i] W fun e w' => e = .returned (.bool b) ∧ Below W.heap.size W w' := by
  subst hn; subst hk
  exact has_any A c xs i W hA (by omega)
end Go.Proofs.Ytbkfebnggomhdaa
