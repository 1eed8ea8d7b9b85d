/- Words for memory that the walks of this seat share, and the smallest functions. -/
import Derived.Test.YtbdjpacmbaoaeaaDoorProg
import Derived.Test.YtbdjpacmbaoaeaaDoorPlain
import Derived.WalkKit
import Derived.WalkSpells
import Derived.WalkLawsBesides
import Derived.Lib.Hide
import Derived.Laws.OwnMore
import Derived.Laws.CopyOwn
import Derived.Laws.Bits64b
import Derived.Deep.AppendLies
import Derived.Deep.Draws
import Derived.Deep.QuietTactic
import Derived.BigQuiet
import Derived.StillTailTactics
import Derived.Deep.RegionHeld3
import Derived.OneCell
import Derived.Outline
import Derived.IntWalk
import Derived.RegionTactic
import Derived.Deep.OwnRows
namespace Go.Proofs.YtbdjpacmbaoaeaaDoor
open Go.RowKit

theorem ret_int {k : IntKind} {a b : Int} (h : a = b) : Ending.returned (.int k a) = .returned (.int k b) := by rw [h]
theorem ret_bool {a b : Bool} (h : a = b) : Ending.returned (.bool a) = .returned (.bool b) := by rw [h]

/-- the cells of a list of bits: its length, then its words -/
def fcells (n : Nat) (ws : List Nat) : List Value := .int .i64 n :: ws.map fun (x : Nat) => Value.int .u64 (x : Int)
theorem fcells_len (n : Nat) (ws : List Nat) : (fcells n ws).length = ws.length + 1 := by simp [fcells]
/-- block b holds a length and 64 words -/
structure Raw (w : World) (b n : Nat) (ws : List Nat) : Prop where
  box : w.heap[b]? = some (.cells (fcells n ws).toArray 64 (0, 0))
  len : ws.length = 64
  lt : ∀ i, ws.getD i 0 < 18446744073709551616
  le : n ≤ 4096
/-- block b holds a list of bits -/
abbrev Fl (w : World) (b : Nat) (l : List Bool) : Prop := Raw w b l.length (words l)
theorem Raw.size {w : World} {b n : Nat} {ws : List Nat} (h : Raw w b n ws) : w.cell? ⟨b, 0, none⟩ = some (.int .i64 n) := by
  rw [cell_of_row w b 0 _ 64 (0, 0) h.box]
  simp [fcells]
theorem Raw.cell {w : World} {b n : Nat} {ws : List Nat} (h : Raw w b n ws) (i : Nat) (hi : i < 64) : w.cell? ⟨b, 1 + i, none⟩ = some (.int .u64 (ws.getD i 0 : Nat)) := by
  rw [cell_of_row w b (1 + i) _ 64 (0, 0) h.box]
  have := h.len
  rw [Nat.add_comm]
  simp [fcells, List.getD_eq_getElem?_getD, List.getElem?_eq_getElem (show i < ws.length by omega)]
theorem Raw.heap {w w' : World} {b n : Nat} {ws : List Nat} (h : Raw w b n ws) (e : w'.heap[b]? = w.heap[b]?) : Raw w' b n ws := ⟨e.trans h.box, h.len, h.lt, h.le⟩
theorem Raw.lt_size {w : World} {b n : Nat} {ws : List Nat} (h : Raw w b n ws) : b < w.heap.size := lt_of_block h.box

def partErr (l : Nat) (a n : Int) : Int := if a < 0 ∨ n < 0 ∨ (l : Int) - a < n then 4 else 0

theorem part_nil (x y : Int) (w : World) : Calls Tryd.prog 34 #[.pointer none, .int .i64 x, .int .i64 y] w fun e w' => e = .returned (.int .i64 2) ∧ w = w' := by
  go_enter Tryd.func34, Tryd.ntmps34
  go_wp2
  go_ret
  exact ⟨rfl, rfl⟩
theorem part_any {w : World} {b n : Nat} {ws : List Nat} (h : Raw w b n ws) (x y : Int) (h1 : x ≤ 9223372036854775807) : Calls Tryd.prog 34 #[.pointer (some ⟨b, 0, none⟩), .int .i64 x, .int .i64 y] w fun e w' => e = .returned (.int .i64 (partErr n x y)) ∧ w = w' := by
  have hc := h.size
  have hn := h.le
  clear h
  go_enter Tryd.func34, Tryd.ntmps34
  go_wp2
  all_goals
    go_ret
    exact ⟨ret_int (by unfold partErr; split <;> simp_all <;> omega), rfl⟩
theorem wordsOf_any (n : Nat) (h : n ≤ 4096) (w : World) : Calls Tryd.prog 37 #[.int .i64 n] w fun e w' => e = .returned (.int .i64 ((n + 63) / 64 : Nat)) ∧ w = w' := by
  go_enter Tryd.func37, Tryd.ntmps37
  go_wp2
  go_ret
  exact ⟨ret_int (by omega), rfl⟩
theorem two_pow_lt (r : Nat) (h : r < 64) : 2 ^ r < 18446744073709551616 := by
  have : 2 ^ r < 2 ^ 64 := Nat.pow_lt_pow_right (by decide) h
  omega
theorem int_two_pow (r : Nat) : (2 : Int) ^ r = ((2 ^ r : Nat) : Int) := by simp
theorem below_any (r : Nat) (h : r < 64) (w : World) : Calls Tryd.prog 36 #[.int .i64 r] w fun e w' => e = .returned (.int .u64 (2 ^ r - 1 : Nat)) ∧ w = w' := by
  have e : IntKind.u64.wrap (IntKind.u64.wrap ((2 : Int) ^ r) - 1) = ((2 ^ r - 1 : Nat) : Int) := by
    have := two_pow_lt r h
    have hp : 0 < 2 ^ r := Nat.two_pow_pos r
    rw [int_two_pow, IntKind.wrap_u64, IntKind.wrap_u64]
    omega
  go_enter Tryd.func36, Tryd.ntmps36
  go_wp2
  go_ret
  exact ⟨rfl, rfl⟩
theorem num_lt : ∀ bs : List Nat, (∀ a ∈ bs, a < 256) → num bs < 256 ^ bs.length
  | [], _ => by simp [num]
  | a :: bs, h => by
    have ih := num_lt bs (fun x hx => h x (by simp [hx]))
    have ha := h a (by simp)
    simp only [num, List.length_cons, Nat.pow_succ]
    omega
theorem num_lt2 : ∀ bs : List Nat, (∀ a ∈ bs, a < 128) → 2 * num bs < 256 ^ bs.length
  | [], _ => by simp [num]
  | a :: bs, h => by
    have ih := num_lt2 bs (fun x hx => h x (by simp [hx]))
    have ha := h a (by simp)
    simp only [num, List.length_cons, Nat.pow_succ]
    omega
theorem st_lt (x : Nat) (h : x < 18446744073709551616) : st1 x < 18446744073709551616 ∧ st2 (st1 x) < 9223372036854775808 := by
  obtain ⟨s1, s2, s3⟩ := st_num x h
  have hb := bytes_lt x
  have l1 := num_lt ((bytes x).map b1) (by
    intro a ha
    obtain ⟨c, hc, rfl⟩ := List.mem_map.1 ha
    exact (b_all c (hb c hc)).1)
  have l2 := num_lt2 ((bytes x).map (b2 ∘ b1)) (by
    intro a ha
    obtain ⟨c, hc, rfl⟩ := List.mem_map.1 ha
    exact (b_all c (hb c hc)).2.1)
  have e : ((bytes x).map b1).length = 8 := by simp [bytes]
  have e2 : ((bytes x).map (b2 ∘ b1)).length = 8 := by simp [bytes]
  rw [e, ← s1] at l1
  rw [e2, ← s2] at l2
  omega
theorem fold_x (x : Nat) (h : x < 18446744073709551616) : ∃ p q r, st3 (st2 (st1 x)) + st3 (st2 (st1 x)) / 256 = p ∧ p + p / 65536 = q ∧ q + q / 4294967296 = r ∧ p < 9223372036854775808 ∧ q < 9223372036854775808 ∧ r < 9223372036854775808 ∧ r % 128 = ones 64 x := by
  obtain ⟨s1, s2, s3⟩ := st_num x h
  have ho : ∀ a < 256, ones 8 a ≤ 8 := fun a ha => (b_all a ha).2.2.2.2.2
  have hsum := ones_sum x h
  rw [s3, ← hsum]
  simp only [bytes, List.map_cons, List.map_nil, List.sum_cons, List.sum_nil]
  obtain ⟨p, q, r, hp, hq, hr, lp, lq, lr, hm⟩ := fold8 (ones 8 (x % 256)) (ones 8 (x / 256 % 256)) (ones 8 (x / 65536 % 256)) (ones 8 (x / 16777216 % 256)) (ones 8 (x / 4294967296 % 256)) (ones 8 (x / 1099511627776 % 256)) (ones 8 (x / 281474976710656 % 256)) (ones 8 (x / 72057594037927936 % 256))
    (ho _ (by omega)) (ho _ (by omega)) (ho _ (by omega)) (ho _ (by omega)) (ho _ (by omega)) (ho _ (by omega)) (ho _ (by omega)) (ho _ (by omega))
  exact ⟨p, q, r, hp, hq, hr, lp, lq, lr, by rw [hm]; simp only [Nat.add_assoc, Nat.add_zero]⟩
/-- the values that the steps of the count go through -/
theorem ones_steps (x : Nat) (h : x < 18446744073709551616) : ∃ a b c p q r : Nat,
    IntKind.u64.wrap (bits BinOp.and IntKind.u64 ((x : Int) / 2) 6148914691236517205 + bits BinOp.and IntKind.u64 (x : Int) 6148914691236517205) = (a : Int) ∧
    IntKind.u64.wrap (bits BinOp.and IntKind.u64 ((a : Int) / 4) 3689348814741910323 + bits BinOp.and IntKind.u64 (a : Int) 3689348814741910323) = (b : Int) ∧
    bits BinOp.and IntKind.u64 (IntKind.u64.wrap ((b : Int) / 16 + (b : Int))) 1085102592571150095 = (c : Int) ∧
    IntKind.u64.wrap ((c : Int) + (c : Int) / 256) = (p : Int) ∧ IntKind.u64.wrap ((p : Int) + (p : Int) / 65536) = (q : Int) ∧ IntKind.u64.wrap ((q : Int) + (q : Int) / 4294967296) = (r : Int) ∧
    r < 9223372036854775808 ∧ r % 128 = ones 64 x := by
  obtain ⟨l1, l2⟩ := st_lt x h
  obtain ⟨p, q, r, hp, hq, hr, lp, lq, lr, hm⟩ := fold_x x h
  have q1 : ((x : Int) / 2) = ((x / 2 : Nat) : Int) := by omega
  have q2 : ((st1 x : Int) / 4) = ((st1 x / 4 : Nat) : Int) := by omega
  refine ⟨st1 x, st2 (st1 x), st3 (st2 (st1 x)), p, q, r, ?_, ?_, ?_, ?_, ?_, ?_, lr, hm⟩
  · rw [q1]
    have a1 : bits BinOp.and IntKind.u64 ((x / 2 : Nat) : Int) 6148914691236517205 = ((x / 2 &&& 6148914691236517205 : Nat) : Int) := bits_and_u64_nat (x / 2) 6148914691236517205 (by omega) (by decide)
    have a2 : bits BinOp.and IntKind.u64 (x : Int) 6148914691236517205 = ((x &&& 6148914691236517205 : Nat) : Int) := bits_and_u64_nat x 6148914691236517205 h (by decide)
    rw [a1, a2, IntKind.wrap_u64]
    have e : st1 x = ((x / 2) &&& 6148914691236517205) + (x &&& 6148914691236517205) := rfl
    omega
  · rw [q2]
    have a1 : bits BinOp.and IntKind.u64 ((st1 x / 4 : Nat) : Int) 3689348814741910323 = ((st1 x / 4 &&& 3689348814741910323 : Nat) : Int) := bits_and_u64_nat (st1 x / 4) 3689348814741910323 (by omega) (by decide)
    have a2 : bits BinOp.and IntKind.u64 (st1 x : Int) 3689348814741910323 = ((st1 x &&& 3689348814741910323 : Nat) : Int) := bits_and_u64_nat (st1 x) 3689348814741910323 l1 (by decide)
    rw [a1, a2, IntKind.wrap_u64]
    have e : st2 (st1 x) = ((st1 x / 4) &&& 3689348814741910323) + (st1 x &&& 3689348814741910323) := rfl
    omega
  · have e : IntKind.u64.wrap ((st2 (st1 x) : Int) / 16 + (st2 (st1 x) : Int)) = ((st2 (st1 x) / 16 + st2 (st1 x) : Nat) : Int) := by rw [IntKind.wrap_u64]; omega
    have a1 : bits BinOp.and IntKind.u64 ((st2 (st1 x) / 16 + st2 (st1 x) : Nat) : Int) 1085102592571150095 = (((st2 (st1 x) / 16 + st2 (st1 x)) &&& 1085102592571150095 : Nat) : Int) := bits_and_u64_nat (st2 (st1 x) / 16 + st2 (st1 x)) 1085102592571150095 (by omega) (by decide)
    rw [e, a1]
    rfl
  · rw [IntKind.wrap_u64]; omega
  · rw [IntKind.wrap_u64]; omega
  · rw [IntKind.wrap_u64]; omega
theorem and127 (r : Nat) (h : r < 9223372036854775808) : bits BinOp.and IntKind.i64 (r : Int) 127 = ((r % 128 : Nat) : Int) := by
  show IntKind.i64.wrap ((BitVec.ofInt 64 (r : Int) &&& BitVec.ofInt 64 127).toNat : Int) = _
  rw [BitVec.toNat_and]
  have e1 : (BitVec.ofInt 64 (r : Int)).toNat = r := by rw [BitVec.toNat_ofInt]; omega
  have e2 : (BitVec.ofInt 64 127).toNat = 127 := by decide
  have e3 := Nat.and_two_pow_sub_one_eq_mod r 7
  simp only [Nat.reducePow, Nat.reduceSub] at e3
  rw [e1, e2, e3, IntKind.wrap_i64]
  omega
theorem ones_any (x : Nat) (h : x < 18446744073709551616) (w : World) : Calls Tryd.prog 35 #[.int .u64 x] w fun e w' => e = .returned (.int .i64 (ones 64 x : Nat)) ∧ w = w' := by
  obtain ⟨a, b, c, p, q, r, h1, h2, h3, h4, h5, h6, h7, h8⟩ := ones_steps x h
  go_enter Tryd.func35, Tryd.ntmps35
  go_wp2
  go_ret
  exact ⟨ret_int (by rw [and127 r h7, h8]), rfl⟩
theorem arr62 : Tryd.prog.arrayLen 62 = 64 := by kernel_rfl
theorem und62 : Tryd.prog.underlying 62 = some (.array (Tryd.prog.arrayLen 62) (Tryd.prog.elem 62)) := by kernel_rfl
theorem sz62 (W : World) : (sizeOf (Tryd.prog.elem 62)).run Tryd.prog W = .ok 1 W := by kernel_rfl
/-- parts of the array of words as slices -/
theorem slice_h (b q : Nat) (hq : q ≤ 64) (W : World) : (Instr.sliceAt 62 (.pointer (some ⟨b, 1, none⟩)) none (some (.int .i64 (q : Int))) none).run Tryd.prog W = .ok (.slice (some ⟨b, 1, none⟩) q 64) W := by
  rw [run_sliceAt_array_h W 62 ⟨b, 1, none⟩ und62 .i64 (q : Int) (by omega) (by rw [arr62]; omega), sz62, arr62]
  simp [Result.andThen, slicedAt, Addr.add]
theorem slice_l (b q : Nat) (hq : q ≤ 64) (W : World) : (Instr.sliceAt 62 (.pointer (some ⟨b, 1, none⟩)) (some (.int .i64 (q : Int))) none none).run Tryd.prog W = .ok (.slice (some (if 64 = q then ⟨b, 1, none⟩ else ⟨b, 1 + q, none⟩)) (64 - q) (64 - q)) W := by
  rw [run_sliceAt_array_l W 62 ⟨b, 1, none⟩ und62 .i64 (q : Int) (by omega) (by rw [arr62]; omega), sz62, arr62]
  simp [Result.andThen, slicedAt, Addr.add]
  repeat' split
  all_goals simp_all
theorem slice_lh (b p q : Nat) (hpq : p ≤ q) (hq : q ≤ 64) (W : World) : (Instr.sliceAt 62 (.pointer (some ⟨b, 1, none⟩)) (some (.int .i64 (p : Int))) (some (.int .i64 (q : Int))) none).run Tryd.prog W = .ok (.slice (some (if 64 = p then ⟨b, 1, none⟩ else ⟨b, 1 + p, none⟩)) (q - p) (64 - p)) W := by
  rw [run_sliceAt_array_lh W 62 ⟨b, 1, none⟩ und62 .i64 .i64 (p : Int) (q : Int) (by omega) (by omega) (by rw [arr62]; omega), sz62, arr62]
  simp [Result.andThen, slicedAt, Addr.add]
  repeat' split
  all_goals simp_all
theorem index62 (b j : Nat) (hj : j < 64) (W : World) : (Instr.indexAt 62 (.pointer (some ⟨b, 1, none⟩)) (.int .i64 (j : Int))).run Tryd.prog W = .ok (.pointer (some ⟨b, 1 + j, none⟩)) W := by
  rw [run_indexAt_array W 62 ⟨b, 1, none⟩ .i64 (j : Int) und62, sz62, arr62]
  simp [Result.andThen, Addr.add]
  rw [if_pos (by omega)]
  split <;> simp_all
theorem slice_all (b : Nat) (W : World) : (Instr.sliceAt 62 (.pointer (some ⟨b, 1, none⟩)) none none none).run Tryd.prog W = .ok (.slice (some ⟨b, 1, none⟩) 64 64) W := by
  rw [run_sliceAt_array_all W 62 ⟨b, 1, none⟩ und62, sz62, arr62]
  simp [Result.andThen, slicedAt, Addr.add]
/-- a call that leaves the world as it is, as a region that draws wants it -/
theorem quiet_of {f : FuncId} {args : Array Value} {v : Value} (w : World) (h : ∀ W, Calls Tryd.prog f args W fun e w' => e = .returned v ∧ W = w') : ∀ k, Calls Tryd.prog f args (w.drewN k) fun e w' => e = .returned v ∧ ∃ m, w' = w.drewN m :=
  fun k => (h _).mono fun _ _ ⟨a, c⟩ => ⟨a, k, c.symm⟩
end Go.Proofs.YtbdjpacmbaoaeaaDoor
