/- The iterator that parts hands back. -/
import Derived.Test.YtdejdnkkbpmmlaaMInW
import Derived.RangeFuncNested
import Derived.RangeFuncBox
import Derived.RangeFuncLeaves
import Derived.RangeFuncCalls
import Derived.Shelf.Abstract
import Derived.OwnWalkIn
import Derived.TacticsInMore
import Derived.LoopNIn
import Derived.LoopIn
import Derived.Maps.AppendAt
namespace Go.Proofs.Ytdejdnkkbpmmlaa
open Go.RowKit

def cutS (a b : Int) (s : S.Sp) : S.Sp := (max s.1 a, min s.2 b)
/-- the parts that lie in a range -/
def cuts (a b : Int) : List S.Sp → List S.Sp
  | [] => []
  | s :: r => if (cutS a b s).1 < (cutS a b s).2 then cutS a b s :: cuts a b r else cuts a b r
def sh (d : Int) (s : S.Sp) : S.Sp := (s.1 + d, s.2 + d)
theorem cuts_has (a b : Int) (xs : List S.Sp) (i : Int) : S.hasB (cuts a b xs) i = (S.hasB xs i && decide (a ≤ i ∧ i < b)) := by
  induction xs with
  | nil => rfl
  | cons s r ih =>
    rw [S.hasB_cons]
    unfold cuts
    split
    · rw [S.hasB_cons, ih, Bool.and_or_distrib_right]
      congr 1
      rw [← Bool.decide_and, decide_eq_decide]
      show (max s.1 a ≤ i ∧ i < min s.2 b) ↔ _
      omega
    · rename_i h
      rw [ih, Bool.and_or_distrib_right]
      have h' : ¬ max s.1 a < min s.2 b := h
      rw [show (decide (s.1 ≤ i ∧ i < s.2) && decide (a ≤ i ∧ i < b)) = false from by rw [← Bool.decide_and, decide_eq_false_iff_not]; omega, Bool.false_or]
theorem val_weak {l l' : Int} {xs : List S.Sp} (h : S.Val l xs) (hl : l' ≤ l) : S.Val l' xs := by
  cases xs with
  | nil => trivial
  | cons s r =>
    obtain ⟨h1, h2, h3, h4⟩ := h
    exact ⟨by omega, h2, h3, h4⟩
theorem cuts_val {a b l : Int} {xs : List S.Sp} (h : S.Val l xs) : S.Val (max l (a - 1)) (cuts a b xs) := by
  induction xs generalizing l with
  | nil => trivial
  | cons s r ih =>
    obtain ⟨h1, h2, h3, h4⟩ := h
    unfold cuts
    split
    · rename_i h
      have h' : max s.1 a < min s.2 b := h
      refine ⟨by show max l (a - 1) < max s.1 a; omega, h, by show min s.2 b ≤ _; omega, val_weak (ih h4) ?_⟩
      show min s.2 b ≤ max s.2 (a - 1); omega
    · exact val_weak (ih h4) (by omega)
theorem cuts_hi {a b : Int} (xs : List S.Sp) : ∀ s ∈ cuts a b xs, s.2 ≤ b := by
  induction xs with
  | nil => intro s hs; simp [cuts] at hs
  | cons t r ih =>
    intro s hs
    unfold cuts at hs
    split at hs
    · rcases List.mem_cons.1 hs with rfl | hs
      · show min t.2 b ≤ b; omega
      · exact ih s hs
    · exact ih s hs
theorem cuts_len (a b : Int) (xs : List S.Sp) : (cuts a b xs).length ≤ xs.length := by
  induction xs with
  | nil => exact Nat.le_refl _
  | cons t r ih => unfold cuts; split <;> simp <;> omega
theorem cuts_app (a b : Int) (xs ys : List S.Sp) : cuts a b (xs ++ ys) = cuts a b xs ++ cuts a b ys := by
  induction xs with
  | nil => rfl
  | cons t r ih =>
    simp only [List.cons_append, cuts, ih]
    split <;> simp
theorem sh_val {l d : Int} {xs : List S.Sp} (h : S.Val l xs) (hd : ∀ s ∈ xs, s.2 + d ≤ 1073741824) : S.Val (l + d) (xs.map (sh d)) := by
  induction xs generalizing l with
  | nil => trivial
  | cons s r ih =>
    obtain ⟨h1, h2, h3, h4⟩ := h
    exact ⟨by show l + d < s.1 + d; omega, by show s.1 + d < s.2 + d; omega, hd s (by simp), ih h4 fun t ht => hd t (by simp [ht])⟩
theorem sh_has (d : Int) (xs : List S.Sp) (i : Int) : S.hasB (xs.map (sh d)) i = S.hasB xs (i - d) := by
  induction xs with
  | nil => rfl
  | cons s r ih =>
    rw [List.map_cons, S.hasB_cons, S.hasB_cons, ih]
    congr 1
    rw [decide_eq_decide]
    show (s.1 + d ≤ i ∧ i < s.2 + d) ↔ _
    omega
/-- the spans of the moved rows at their new places -/
def moved (a n x : Nat) (xs : List S.Sp) : List S.Sp := (cuts a ((a : Int) + n) xs).map (sh ((x : Int) - a))
theorem moved_val {a n x : Nat} {xs : List S.Sp} (h : S.Val (-1) xs) (hx : x + n ≤ 1024) : S.Val (-1) (moved a n x xs) := by
  have h1 := cuts_val (a := a) (b := (a : Int) + n) h
  have h2 := sh_val (d := (x : Int) - a) h1 (fun s hs => by have := cuts_hi xs s hs; omega)
  exact val_weak h2 (by omega)
theorem moved_has {a n x : Nat} {r : List (Int × Bool)} {xs : List S.Sp} (h : IsSet r xs) (i : Int) :
    S.hasB (moved a n x xs) i = (decide ((x : Int) ≤ i ∧ i < (x : Int) + n) && kn r (i - x + a)) := by
  unfold moved
  rw [sh_has, cuts_has, h.has, Bool.and_comm, show i - ((x : Int) - a) = i - x + a by omega]
  congr 1
  rw [decide_eq_decide]
  omega
theorem moved_len (a n x : Nat) (xs : List S.Sp) : (moved a n x xs).length ≤ xs.length := by
  unfold moved; rw [List.length_map]; exact cuts_len _ _ _
theorem moved_chk {a n x : Nat} {r : List (Int × Bool)} {xs : List S.Sp} (h : IsSet r xs) (hr : r.length ≤ 1024) (hx : x + n ≤ 1024) : S.chk (moved a n x xs) = 0 :=
  S.chk_of_val (moved_val h.val hx) (by have := h.len; have := moved_len a n x xs; omega)
end Go.Proofs.Ytdejdnkkbpmmlaa

namespace Go.Proofs.Ytdejdnkkbpmmlaa
open Go.RowKit Go.Shelf
attribute [local go_sem] Oper.semAt_some

theorem cuts_snoc (a b : Int) (xs : List S.Sp) (k : Nat) (h : k < xs.length) : cuts a b (xs.take (k + 1)) = if max xs[k].1 a < min xs[k].2 b then cuts a b (xs.take k) ++ [(max xs[k].1 a, min xs[k].2 b)] else cuts a b (xs.take k) := by
  rw [List.take_succ_eq_append_getElem h, cuts_app]
  have e : cuts a b [xs[k]] = if max xs[k].1 a < min xs[k].2 b then [(max xs[k].1 a, min xs[k].2 b)] else [] := rfl
  rw [e]
  by_cases h2 : max xs[k].1 a < min xs[k].2 b
  · rw [if_pos h2, if_pos h2]
  · rw [if_neg h2, if_neg h2, List.append_nil]
theorem cuts_pre (a b : Int) (xs : List S.Sp) (k : Nat) : cuts a b (xs.take k) <+: cuts a b xs := by
  conv => rhs; rw [← List.take_append_drop k xs, cuts_app]
  exact List.prefix_append _ _
/-- no block below M but block g has changed -/
structure Ex (M g : Nat) (W W' : World) : Prop where
  size : W.heap.size ≤ W'.heap.size
  block : ∀ i, i < M → i ≠ g → W'.heap[i]? = W.heap[i]?
theorem Ex.refl (M g : Nat) (W : World) : Ex M g W W := ⟨Nat.le_refl _, fun _ _ _ => rfl⟩
theorem Ex.trans {M g : Nat} {A B C : World} (h : Ex M g A B) (k : Ex M g B C) : Ex M g A C := ⟨Nat.le_trans h.size k.size, fun i h1 h2 => (k.block i h1 h2).trans (h.block i h1 h2)⟩
theorem Ex.cell {M g : Nat} {W W' : World} (h : Ex M g W W') {p : Addr} (h1 : p.block < M) (h2 : p.block ≠ g) : W'.cell? p = W.cell? p := by
  simp [World.cell?, h.block p.block h1 h2]
theorem Ex.alloc {M g : Nat} {W W' : World} (h : Ex M g W W') (hM : M ≤ W'.heap.size) (o : Obj) : Ex M g W (W'.alloc o) :=
  ⟨Nat.le_trans h.size (by simp), fun i h1 h2 => (Below.heap_alloc W' o i (Nat.lt_of_lt_of_le h1 hM)).trans (h.block i h1 h2)⟩
theorem rd_ex {M g : Nat} {W W' : World} {A : Option Addr} {xs : List S.Sp} (h : S.Rd W g A xs) (hg : g < M) (k : Ex M g W W') : S.Rd W' g A xs := fun i hi => by
  obtain ⟨b, o, e, h1, h2, h3⟩ := h i hi
  exact ⟨b, o, e, h1, (k.cell (p := ⟨b, _, none⟩) (Nat.lt_trans h1 hg) (Nat.ne_of_lt h1)).trans h2, (k.cell (p := ⟨b, _, none⟩) (Nat.lt_trans h1 hg) (Nat.ne_of_lt h1)).trans h3⟩
set_option maxRecDepth 100000 in
set_option maxHeartbeats 4000000 in
theorem parts1_in (n : Nat) (hn : 1 ≤ n) (l B1 B2 B3 M g c : Nat) (A : Option Addr) (xs : List S.Sp) (a b : Int) (hreach : xs.length ≤ 1000000) (J Jx : List S.Sp → World → Prop) (W : World) (hJ : AbidesFrom W.heap.size J) (hM : M ≤ W.heap.size) (hgM : g < M)
    (hY : ∀ pre (x : S.Sp) W1, J pre W1 → pre.length < xs.length → YieldAt Fence.wide (n - 1) Try.prog l #[.agg #[.int .i64 x.1, .int .i64 x.2]] W1 fun e W' =>
      (e = .returned (.bool true) ∧ J (pre ++ [x]) W' ∧ Ex M g W1 W') ∨ (e = .returned (.bool false) ∧ Jx (pre ++ [x]) W'))
    (h1 : W.cell? ⟨B1, 0, none⟩ = some (.slice A xs.length c)) (h2 : W.cell? ⟨B2, 0, none⟩ = some (.int .i64 a)) (h3 : W.cell? ⟨B3, 0, none⟩ = some (.int .i64 b)) (hB2 : B2 < M) (hB3 : B3 < M) (hC2 : B2 ≠ g) (hC3 : B3 ≠ g) (hI : S.Rd W g A xs) (h0 : J [] W) :
    CallsIn Fence.wide n Try.prog 60 #[.func (.yield l) #[] #[], .pointer (some ⟨B1, 0, none⟩), .pointer (some ⟨B2, 0, none⟩), .pointer (some ⟨B3, 0, none⟩)] W fun e W' => (∃ v, e = .returned v) ∧
      ((∃ ys, ys = cuts a b xs ∧ J ys W') ∨ (∃ pre, pre <+: cuts a b xs ∧ Jx pre W')) := by
  refine callsIn_wide.2 ?_
  have HY := Lib.hid hY
  have HJ := Lib.hid hJ
  have HI := Lib.hid hI
  have H0 := Lib.hid h0
  have H2 := Lib.hid h2
  have H3 := Lib.hid h3
  have U0 : Hid (Ex M g W W) := Lib.hid (Ex.refl _ _ _)
  clear hY hJ hI h0 h2 h3
  go_enter Try.func60, Try.ntmps60
  go_wp2_with fail
  go_loopw [6, 9] (fun _ i wr => ∃ k : Nat, k ≤ xs.length ∧ i = .int .i64 k ∧ Hid (J (cuts a b (xs.take k)) wr) ∧ Hid (Ex M g W wr)) (fun _ i _ => xs.length - (intOf i).toNat)
  case atStart => exact ⟨0, Nat.zero_le _, rfl, by rw [List.take_zero]; exact H0, U0⟩
  case round =>
    obtain ⟨k, hk, rfl, HJs, UR⟩ := hrel
    by_cases hlt : k < xs.length
    · obtain ⟨bb, o, hA, hb, c0, c1⟩ := rd_ex HI.out hgM UR.out k hlt
      subst hA
      have hcs := Lib.hid (cuts_snoc a b xs k hlt)
      have d2 := (UR.out.cell (p := ⟨B2, 0, none⟩) hB2 hC2).trans H2.out
      have d3 := (UR.out.cell (p := ⟨B3, 0, none⟩) hB3 hC3).trans H3.out
      have hl2 : B2 < wr.heap.size := Nat.lt_of_lt_of_le hB2 (Nat.le_trans hM UR.out.size)
      have hl3 : B3 < wr.heap.size := Nat.lt_of_lt_of_le hB3 (Nat.le_trans hM UR.out.size)
      obtain ⟨⟨p, q⟩, hpq⟩ : ∃ s, xs[k] = s := ⟨_, rfl⟩
      rw [hpq] at c0 c1 hcs
      simp only at c0 c1 hcs
      obtain ⟨u, hu, hu2⟩ : ∃ u, (if p < a then a else p) = u ∧ u = max p a := ⟨_, rfl, by omega⟩
      obtain ⟨v, hv, hv2⟩ : ∃ v, (if b < q then b else q) = v ∧ v = min q b := ⟨_, rfl, by omega⟩
      rw [← hu2, ← hv2] at hcs
      have HU2 := Lib.hid hu2
      have HV2 := Lib.hid hv2
      clear hu2 hv2 hpq
      have hg : Hid (wr.grownBy (wr.alloc (.cells #[.int .i64 u, .int .i64 v] 72)) none) := Lib.hid (World.grownBy_alloc wr _ none)
      have J3 := Lib.hid (HJ.out _ _ _ none HJs.out hg.out (fun r e => by cases e))
      have hnw := UR.out.size
      have U3 := Lib.hid (UR.out.alloc (Nat.le_trans hM hnw) (.cells #[.int .i64 u, .int .i64 v] 72))
      go_upto_region 4 with fail
      obtain ⟨z0, z1⟩ : (wr.alloc (.cells #[.int .i64 u, .int .i64 v] 72)).cell? ⟨wr.heap.size, 0, none⟩ = some (.int .i64 u) ∧ (wr.alloc (.cells #[.int .i64 u, .int .i64 v] 72)).cell? ⟨wr.heap.size, 1, none⟩ = some (.int .i64 v) :=
        ⟨cell_of_row _ _ 0 _ 72 (0, 0) (heap_alloc_new wr _), cell_of_row _ _ 1 _ 72 (0, 0) (heap_alloc_new wr _)⟩
      obtain ⟨W3, hW3⟩ : ∃ W3, wr.alloc (.cells #[.int .i64 u, .int .i64 v] 72) = W3 := ⟨_, rfl⟩
      obtain ⟨gn, hgg⟩ : ∃ gn, wr.heap.size = gn := ⟨_, rfl⟩
      rw [hW3] at z0 z1 J3 U3 ⊢
      rw [hgg] at z0 z1 ⊢
      clear hg hW3 hgg d2 d3 hl2 hl3 c0 c1 hnw hu hv
      by_cases huv : u < v
      · have HP := Lib.hid (show cuts a b (xs.take (k + 1)) = cuts a b (xs.take k) ++ [(u, v)] from hcs.out.trans (if_pos huv))
        have hlen : (cuts a b (xs.take k)).length < xs.length := Nat.lt_of_le_of_lt (cuts_len a b _) (by rw [List.length_take]; omega)
        obtain ⟨fn, tmps, assign, body, hy, hR⟩ := HY.out _ (u, v) W3 J3.out hlen
        have HPR := Lib.hid (cuts_pre a b xs (k + 1))
        clear hcs hlen J3 HJs
        refine (wpIn_wide (n := n)).1 ?_
        gi_wp2
        first | refine hR.mono ?_ | refine ⟨fun _ => hn, hR.mono ?_⟩
        rintro e W4 (⟨rfl, hJ4, hk4⟩ | ⟨rfl, hJx4⟩)
        · have HJ4 := Lib.hid hJ4
          have U4 := Lib.hid (U3.out.trans hk4)
          clear hJ4 hk4
          gi_wp2
          go_wp2_with fail
          go_roundw
          case rel => exact ⟨k + 1, by omega, by go_num, by rw [HP.out]; exact HJ4, U4⟩
          case measure => simp [intOf]; omega
        · gi_wp2
          go_wp2_with fail
          refine bodyPost_ret (results_none rfl _ _ _) rfl ?_
          exact ⟨⟨_, rfl⟩, .inr ⟨_, by rw [← HP.out]; exact HPR.out, hJx4⟩⟩
      · have HP := Lib.hid (show cuts a b (xs.take (k + 1)) = cuts a b (xs.take k) from hcs.out.trans (if_neg huv))
        have duv : decide (u < v) = false := decide_eq_false huv
        clear hcs HJs
        go_wp2_with fail
        go_roundw
        case rel => exact ⟨k + 1, by omega, by go_num, by rw [HP.out]; exact J3, U3⟩
        case measure => simp [intOf]; omega
    · have HF : Hid (J (cuts a b xs) wr) := by rwa [List.take_of_length_le (by omega)] at HJs
      go_wp2_with fail
      go_end0
      exact ⟨⟨_, rfl⟩, .inl ⟨_, rfl, HF.out⟩⟩
theorem parts_stops (n : Nat) (hn : 1 ≤ n) (B1 B2 B3 g c : Nat) (A : Option Addr) (xs : List S.Sp) (a b : Int) (hreach : xs.length ≤ 1000000) (w : World) (hB1 : B1 < w.heap.size) (hB2 : B2 < w.heap.size) (hB3 : B3 < w.heap.size) (hg : g < w.heap.size) (hC2 : B2 ≠ g) (hC3 : B3 ≠ g)
    (h1 : w.cell? ⟨B1, 0, none⟩ = some (.slice A xs.length c)) (h2 : w.cell? ⟨B2, 0, none⟩ = some (.int .i64 a)) (h3 : w.cell? ⟨B3, 0, none⟩ = some (.int .i64 b)) (hI : S.Rd w g A xs) :
    SeqStopsK Fence.wide n Try.prog 60 #[.pointer (some ⟨B1, 0, none⟩), .pointer (some ⟨B2, 0, none⟩), .pointer (some ⟨B3, 0, none⟩)] (fun x : S.Sp => #[Value.agg #[.int .i64 x.1, .int .i64 x.2]]) (Ex w.heap.size g) (fun ys => ys = cuts a b xs) (fun pre => pre <+: cuts a b xs) xs.length w :=
  fun l J Jx W hW hJ _ hY h0 => parts1_in n hn l B1 B2 B3 w.heap.size g c A xs a b hreach J Jx W hJ hW.size hg hY ((hW.cell (p := ⟨B1, 0, none⟩) hB1).trans h1) ((hW.cell (p := ⟨B2, 0, none⟩) hB2).trans h2)
    ((hW.cell (p := ⟨B3, 0, none⟩) hB3).trans h3) hB2 hB3 hC2 hC3 (hI.below (hW.mono (Nat.le_of_lt hg))) h0
set_option maxRecDepth 100000 in
set_option maxHeartbeats 1000000 in
theorem parts_any (A : Option Addr) (n c : Nat) (a b : Int) (w : World) :
    Calls Try.prog 43 #[.slice A n c, .int .i64 a, .int .i64 b] w fun e w' => e = .returned (.func (.func 60) #[] #[.pointer (some ⟨w.heap.size, 0, none⟩), .pointer (some ⟨w.heap.size + 1, 0, none⟩), .pointer (some ⟨w.heap.size + 1 + 1, 0, none⟩)]) ∧
      w' = ((w.alloc (.cells #[.slice A n c] 30)).alloc (.cells #[.int .i64 a] 3)).alloc (.cells #[.int .i64 b] 3) := by
  go_enter Try.func43, Try.ntmps43
  go_wp2_with fail
  go_ret
  exact ⟨rfl, rfl⟩
end Go.Proofs.Ytdejdnkkbpmmlaa
