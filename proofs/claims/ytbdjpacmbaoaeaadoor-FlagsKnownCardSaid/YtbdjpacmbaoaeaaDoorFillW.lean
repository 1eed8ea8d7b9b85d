/- A list of bits as a value: loads, stores, results; the walk of filled. -/
import Derived.Test.YtbdjpacmbaoaeaaDoorCutW
import Derived.Laws.Rows
import Derived.Laws.Tables
namespace Go.Proofs.YtbdjpacmbaoaeaaDoor
open Go.RowKit

/-- the cells of the value of a list of bits -/
def fl (l : List Bool) : Array Value := (fcells l.length (words l)).toArray
/-- 64 words of no bit -/
def zs : List Nat := List.replicate 64 0
theorem zs_get (i : Nat) : zs.getD i 0 = 0 := by
  simp only [zs, List.getD_eq_getElem?_getD, List.getElem?_replicate]
  split <;> rfl
theorem zs_words : zs = words [] := words_ext (by simp [zs]) (fun i _ => by rw [zs_get]; decide) (fun i _ j _ => by rw [zs_get]; simp)
theorem zero64 (W : World) : (zeroValue 64).run Tryd.prog W = .ok (.agg (fcells 0 zs).toArray) W := by kernel_rfl
theorem zero64' : ∃ Z : Array Value, Hid (Z = (fcells 0 zs).toArray) ∧ Hid (Z.size = 65) ∧ ¬ Z = #[] ∧ ∀ W, (zeroValue 64).run Tryd.prog W = .ok (.agg Z) W := ⟨_, Lib.hid rfl, Lib.hid (by simp [fcells, zs]), by simp [fcells], zero64⟩
theorem und64 : ∃ d, Tryd.prog.underlying 64 = some d ∧ d.isRow = true := ⟨_, Tryd.underlying64, rfl⟩
theorem size64 : (Tryd.prog.info? 64).map (·.size) = some 65 := by kernel_rfl
theorem fcells_size (n : Nat) {ws : List Nat} (h : ws.length = 64) : (fcells n ws).toArray.size = 65 := by simp [fcells_len, h]
theorem fcells_one (n : Nat) (ws : List Nat) : (fcells n ws).toArray.all (·.oneCell') = true := by
  apply all_oneCell_toArray
  intro v hv
  simp only [fcells, List.mem_cons, List.mem_map] at hv
  rcases hv with rfl | ⟨x, _, rfl⟩ <;> rfl
/-- a list of bits is stored whole -/
theorem wp_store64 {w : World} {ops : Array Oper} {rest : List Oper} {o : Oper} {a : Act} {Q : Exit → Act → World → Prop} (hgd : o.guard = none) (x y : Operand) (ho : o.op = .store 64 x y)
    (b : Nat) (hx : a.eval x = .pointer (some ⟨b, 0, none⟩)) (C : Array Value) (hy : a.eval y = .agg C) (n : Nat) (ws : List Nat) (hC : C = (fcells n ws).toArray) (hl : ws.length = 64)
    (old : Array Value) (hg : w.heap[b]? = some (.cells old 64 (0, 0))) (hs : old.size = 65)
    (h : ∀ w', Hid (w'.heap[b]? = some (.cells C 64 (0, 0))) → Hid (Fr w w' b) → wpList Tryd.prog ops Q rest (a.put o.dst undef) w') : wpList Tryd.prog ops Q (o :: rest) a w := by
  subst hC
  refine wpList_store_row hgd 64 x y ho b _ hx hy 64 old hg (by rw [fcells_size n hl]; exact size64) (by rw [hs, fcells_size n hl]) (fcells_one n ws) ?_
  exact h _ (Lib.hid (setRow_heap w b _ _ 64 _ hg)) (Lib.hid ((Fr.refl w b).setRow _))
/-- a list of bits is loaded whole -/
theorem wp_load64 {w : World} {ops : Array Oper} {rest : List Oper} {o : Oper} {a : Act} {Q : Exit → Act → World → Prop} (hgd : o.guard = none) (x : Operand) (ho : o.op = .load 64 x)
    (b : Nat) (hx : a.eval x = .pointer (some ⟨b, 0, none⟩)) (C : Array Value) (hg : w.heap[b]? = some (.cells C 64 (0, 0))) (hs : C.size = 65)
    (h : wpList Tryd.prog ops Q rest (a.put o.dst (.agg C)) w) : wpList Tryd.prog ops Q (o :: rest) a w :=
  wpList_load_row hgd 64 x ho b hx 64 C (0, 0) _ hg Tryd.underlying64 rfl (by rw [hs]; exact size64) h
theorem res64 {fn : Func} {p : Tmp} (h : fn.results = #[.cell p 64]) (tmps : Array Value) (w : World) (b : Nat) (C : Array Value) (hp : tmps.getD p undef = .pointer (some ⟨b, 0, none⟩))
    (hg : w.heap[b]? = some (.cells C 64 (0, 0))) (hs : C.size = 65) : (results fn tmps).run Tryd.prog w = .ok (.agg C) w :=
  results_cell_row h tmps w b 64 C (0, 0) _ hp hg Tryd.underlying64 rfl (by rw [hs]; exact size64)
theorem fl_size (l : List Bool) : (fl l).size = 65 := fcells_size _ (words_len l)
/-- what part, filled, join and without hand back -/
def Gv (w : World) (l : List Bool) (e : Ending) (w' : World) : Prop := e = .returned (.agg (fl l)) ∧ Below w.heap.size w w'

/-- the first j words are all true -/
def fillw (j : Nat) : List Nat := (List.range 64).map fun i => if i < j then 18446744073709551615 else 0
theorem fillw_get (j i : Nat) (h : i < 64) : (fillw j).getD i 0 = if i < j then 18446744073709551615 else 0 := by
  simp [fillw, List.getD_eq_getElem?_getD, h]
theorem fillw_zero : fillw 0 = zs := by decide
theorem fillw_len (j : Nat) : (fillw j).length = 64 := by simp [fillw]
theorem fillw_lt (j i : Nat) : (fillw j).getD i 0 < 18446744073709551616 := by
  by_cases h : i < 64
  · rw [fillw_get j i h]; split <;> decide
  · simp [fillw, List.getD_eq_getElem?_getD, h]
theorem fillw_set (j : Nat) : (fillw j).set j 18446744073709551615 = fillw (j + 1) := by
  apply List.ext_getElem?
  intro i
  rw [List.getElem?_set, fillw_len]
  by_cases h : i < 64
  · simp only [fillw, List.getElem?_map, List.getElem?_range h, Option.map_some]
    by_cases hj : j = i
    · subst hj
      simp [h]
    · rw [if_neg hj]
      by_cases hij : i < j
      · rw [if_pos hij, if_pos (by omega)]
      · rw [if_neg hij, if_neg (by omega)]
  · by_cases hj : j = i
    · subst hj
      rw [if_pos rfl, if_neg h, List.getElem?_eq_none (by rw [fillw_len]; omega)]
    · rw [if_neg hj, List.getElem?_eq_none (by rw [fillw_len]; omega), List.getElem?_eq_none (by rw [fillw_len]; omega)]
theorem cut_zs (n : Nat) : cutw n zs = words (List.replicate n false) := by
  apply words_ext (cutw_len _ _)
  · intro i _
    exact cutw_lt n (fun i => by rw [zs_get]; decide) i
  · intro i hi j _
    rw [cutw_bit n zs i j hi, zs_get]
    simp [List.getD_eq_getElem?_getD, List.getElem?_replicate]
    split <;> rfl
theorem cut_fill (n : Nat) (_hn : n ≤ 4096) : cutw n (fillw ((n + 63) / 64)) = words (List.replicate n true) := by
  apply words_ext (cutw_len _ _)
  · intro i _
    exact cutw_lt n (fillw_lt _) i
  · intro i hi j hj
    rw [cutw_bit n _ i j hi, fillw_get _ i hi]
    simp only [List.getD_eq_getElem?_getD, List.getElem?_replicate]
    by_cases h : 64 * i + j < n
    · have := Nat.testBit_two_pow_sub_one 64 j
      rw [show 2 ^ 64 - 1 = 18446744073709551615 by decide] at this
      rw [if_pos (by omega), this, if_pos h]
      simp [h, hj]
    · rw [if_neg h]
      simp [h]

theorem Below.raw {w w' : World} {B b n : Nat} {ws : List Nat} (h : Below B w w') (hb : b < B) (k : Raw w b n ws) : Raw w' b n ws := k.heap (h.block b hb)
theorem fl_eq (l : List Bool) (n : Nat) (h : l.length = n) : (fcells n (words l)).toArray = fl l := by subst h; rfl
set_option maxHeartbeats 1000000 in
theorem filled_false (n : Nat) (hn : n ≤ 4096) (w : World) : Calls Tryd.prog 42 #[.int .i64 n, .bool false] w (Gv w (List.replicate n false)) := by
  obtain ⟨Z, hZ, hZs, hZn, hz⟩ := zero64'
  have HC : Hid (Z.setIfInBounds 0 (.int .i64 (n : Int)) = (fcells n zs).toArray) := Lib.hid (by rw [hZ.out]; simp [fcells])
  obtain ⟨C, hC⟩ : ∃ C, Z.setIfInBounds 0 (.int .i64 (n : Int)) = C := ⟨_, rfl⟩
  rw [hC] at HC
  obtain ⟨W0, hR, hF, hB, hsz, hW0⟩ : ∃ W0 : World, Hid (W0.heap[w.heap.size]? = some (.cells Z 64 (0, 0))) ∧ Hid (W0.heap[w.heap.size + 1]? = some (.cells Z 64 (0, 0))) ∧ Hid (Below w.heap.size w W0) ∧ Hid (w.heap.size + 2 ≤ W0.heap.size) ∧
      (w.alloc (.cells Z 64)).alloc (.cells Z 64) = W0 :=
    ⟨_, Lib.hid (heap_alloc2_old w _ _), Lib.hid (heap_alloc2_new w _ _), Lib.hid (((Below.refl _ w).alloc (Nat.le_refl _) _).alloc (by simp) _), Lib.hid (by simp), rfl⟩
  go_enter Tryd.func42, Tryd.ntmps42
  go_wp2_with (first | (refine wp_store64 rfl (.tmp 5) (.tmp 8) rfl (w.heap.size + 1) rfl C rfl n zs HC.out (by decide) Z hF.out hZs.out ?_))
  intro w1 H1 F1
  have HR1 : Hid (w1.heap[w.heap.size]? = some (.cells Z 64 (0, 0))) := Lib.hid ((F1.out.block _ (by have := hsz.out; omega) (by omega)).trans hR.out)
  have RW : Raw w1 (w.heap.size + 1) n zs := ⟨by rw [← HC.out]; exact H1.out, by decide, fun i => by rw [zs_get]; decide, hn⟩
  have KC := Lib.hid (cut_any RW)
  rw [cut_zs] at KC
  clear RW hW0 hC hz hZn
  go_wp2_with fail
  refine KC.out.mono ?_
  rintro e w2 ⟨rfl, RW2, F2⟩
  have HR2 : Hid (w2.heap[w.heap.size]? = some (.cells Z 64 (0, 0))) := Lib.hid ((F2.block _ (by have := F1.out.size; have := hsz.out; omega) (by omega)).trans HR1.out)
  have HW2 := Lib.hid RW2
  have HF2 := Lib.hid F2
  clear RW2 F2
  go_wp2_with (first | (refine wp_load64 rfl (.tmp 5) rfl (w.heap.size + 1) rfl _ HW2.out.box (fcells_size n HW2.out.len) ?_) | (refine wp_store64 rfl (.tmp 4) (.tmp 20) rfl w.heap.size rfl _ rfl n (words (List.replicate n false)) rfl (words_len _) Z HR2.out hZs.out ?_))
  intro w3 H3 F3
  go_wp2_with fail
  refine bodyPost_ret (res64 rfl _ _ w.heap.size _ rfl H3.out (fcells_size n (words_len _))) rfl ?_
  refine ⟨?_, ?_⟩
  · rw [fl_eq _ n (by simp)]
  · exact ((hB.out.trans (F1.out.below (by omega) (by have := hsz.out; omega))).trans (HF2.out.below (by omega) (by have := F1.out.size; have := hsz.out; omega))).trans (F3.out.below (Nat.le_refl _) (by have := F1.out.size; have := HF2.out.size; have := hsz.out; omega))
set_option maxHeartbeats 1000000 in
theorem filled_true (n : Nat) (hn : n ≤ 4096) (w : World) : Calls Tryd.prog 42 #[.int .i64 n, .bool true] w (Gv w (List.replicate n true)) := by
  obtain ⟨Z, hZ, hZs, hZn, hz⟩ := zero64'
  have HC : Hid (Z.setIfInBounds 0 (.int .i64 (n : Int)) = (fcells n zs).toArray) := Lib.hid (by rw [hZ.out]; simp [fcells])
  obtain ⟨C, hC⟩ : ∃ C, Z.setIfInBounds 0 (.int .i64 (n : Int)) = C := ⟨_, rfl⟩
  rw [hC] at HC
  obtain ⟨W0, hR, hF, hB, hsz, hW0⟩ : ∃ W0 : World, Hid (W0.heap[w.heap.size]? = some (.cells Z 64 (0, 0))) ∧ Hid (W0.heap[w.heap.size + 1]? = some (.cells Z 64 (0, 0))) ∧ Hid (Below w.heap.size w W0) ∧ Hid (w.heap.size + 2 ≤ W0.heap.size) ∧
      (w.alloc (.cells Z 64)).alloc (.cells Z 64) = W0 :=
    ⟨_, Lib.hid (heap_alloc2_old w _ _), Lib.hid (heap_alloc2_new w _ _), Lib.hid (((Below.refl _ w).alloc (Nat.le_refl _) _).alloc (by simp) _), Lib.hid (by simp), rfl⟩
  go_enter Tryd.func42, Tryd.ntmps42
  go_wp2_with (first | (refine wp_store64 rfl (.tmp 5) (.tmp 8) rfl (w.heap.size + 1) rfl C rfl n zs HC.out (by decide) Z hF.out hZs.out ?_))
  intro w1 H1 F1
  have HR1 : Hid (w1.heap[w.heap.size]? = some (.cells Z 64 (0, 0))) := Lib.hid ((F1.out.block _ (by have := hsz.out; omega) (by omega)).trans hR.out)
  have RW : Hid (Raw w1 (w.heap.size + 1) n (fillw 0)) := Lib.hid ⟨by rw [fillw_zero, ← HC.out]; exact H1.out, fillw_len 0, fillw_lt 0, hn⟩
  have HB1 : Hid (Below w.heap.size w w1) := Lib.hid (hB.out.trans (F1.out.below (by omega) (by have := hsz.out; omega)))
  have HS1 : Hid (w.heap.size + 2 ≤ w1.heap.size) := Lib.hid (by have := F1.out.size; have := hsz.out; omega)
  have HW := Lib.hid (wordsOf_any n hn w1)
  obtain ⟨m, hm⟩ : ∃ m, m = (n + 63) / 64 := ⟨_, rfl⟩
  have HM := Lib.hid hm
  have hm64 : m ≤ 64 := by omega
  rw [← hm] at HW
  clear hW0 hC hz hZn hm H1 F1 hB hsz hR hF
  obtain ⟨F, hFe⟩ : ∃ F, F = w.heap.size + 1 := ⟨_, rfl⟩
  rw [← hFe] at RW
  rw [← hFe]
  have HFe := Lib.hid hFe
  clear hFe
  go_wp2_with (first | (go_at_call 37; refine HW.out.mono ?_; rintro e w2 ⟨rfl, rfl⟩))
  go_loopw [12] (fun k wr => ∃ (j : Nat), k = .int .i64 j ∧ j ≤ m ∧ Hid (Raw wr F n (fillw j)) ∧ Hid (wr.heap[w.heap.size]? = some (.cells Z 64 (0, 0))) ∧ Hid (Below w.heap.size w wr) ∧ Hid (w.heap.size + 2 ≤ wr.heap.size)) (fun k _ => m - (intOf k).toNat)
  case atStart => exact ⟨0, rfl, Nat.zero_le _, RW, HR1, HB1, HS1⟩
  case round =>
    obtain ⟨j, rfl, hj, HR, HO, HB, HS⟩ := hrel
    by_cases hlt : j < m
    · have hc := HR.out.cell j (by omega)
      have hf := HR.out.frozen (1 + j)
      have HR2 : Hid (Raw (wr.setCell ⟨F, 1 + j, none⟩ (.int .u64 18446744073709551615)) F n (fillw (j + 1))) := Lib.hid (by
        rw [← fillw_set j]
        exact HR.out.set j 18446744073709551615 (by decide))
      have HO2 : Hid ((wr.setCell ⟨F, 1 + j, none⟩ (.int .u64 18446744073709551615)).heap[w.heap.size]? = some (.cells Z 64 (0, 0))) := Lib.hid ((Below.heap_setCell wr ⟨F, 1 + j, none⟩ _ _ (by have := HFe.out; show w.heap.size ≠ F; omega)).trans HO.out)
      have HB2 : Hid (Below w.heap.size w (wr.setCell ⟨F, 1 + j, none⟩ (.int .u64 18446744073709551615))) := Lib.hid (HB.out.trans ((Fr.refl wr F).setCell (p := ⟨F, 1 + j, none⟩) rfl _ |>.below (by have := HFe.out; omega) (by have := HS.out; omega)))
      have HS2 : Hid (w.heap.size + 2 ≤ (wr.setCell ⟨F, 1 + j, none⟩ (.int .u64 18446744073709551615)).heap.size) := Lib.hid (by simpa [World.setCell] using HS.out)
      generalize (fillw j).getD j 0 = u at *
      go_wp2_with fail
      go_roundw
      case rel => exact ⟨j + 1, by go_num, by omega, HR2, HO2, HB2, HS2⟩
      case measure => simp [intOf]; omega
    · obtain rfl : j = m := by omega
      have KC := Lib.hid (cut_any HR.out)
      rw [HM.out, cut_fill n hn] at KC
      go_wp2_with fail
      refine KC.out.mono ?_
      rintro e w2 ⟨rfl, RW2, F2⟩
      have HR2 : Hid (w2.heap[w.heap.size]? = some (.cells Z 64 (0, 0))) := Lib.hid ((F2.block _ (by have := HS.out; omega) (by have := HFe.out; omega)).trans HO.out)
      have HW2 := Lib.hid RW2
      have HF2 := Lib.hid F2
      clear RW2 F2
      go_wp2_with (first | (refine wp_load64 rfl (.tmp 5) rfl F rfl _ HW2.out.box (fcells_size n HW2.out.len) ?_) | (refine wp_store64 rfl (.tmp 4) (.tmp 20) rfl w.heap.size rfl _ rfl n (words (List.replicate n true)) rfl (words_len _) Z HR2.out hZs.out ?_))
      intro w3 H3 F3
      go_wp2_with fail
      refine bodyPost_ret (res64 rfl _ _ w.heap.size _ rfl H3.out (fcells_size n (words_len _))) rfl ?_
      refine ⟨?_, ?_⟩
      · rw [fl_eq _ n (by simp)]
      · exact (HB.out.trans (HF2.out.below (by have := HFe.out; omega) (by have := HS.out; omega))).trans (F3.out.below (Nat.le_refl _) (by have := HF2.out.size; have := HS.out; omega))
theorem filled_any (n : Nat) (hn : n ≤ 4096) (v : Bool) (w : World) : Calls Tryd.prog 42 #[.int .i64 n, .bool v] w (Gv w (List.replicate n v)) := by
  cases v
  · exact filled_false n hn w
  · exact filled_true n hn w
end Go.Proofs.YtbdjpacmbaoaeaaDoor
