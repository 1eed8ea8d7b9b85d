/- The walks of cut and filled; laws for clear and copy onto a block that is known whole. -/
import Derived.Test.YtbdjpacmbaoaeaaDoorSetW
import Derived.StillTail
import Derived.StillTactics
namespace Go.Proofs.YtbdjpacmbaoaeaaDoor
open Go.RowKit

/-- copy onto a row that is known whole -/
theorem wp_copy {P : Program} {w : World} {ops : Array Oper} {rest : List Oper} {o : Oper} {a : Act} {Q : Exit → Act → World → Prop} (hgd : o.guard = none) (d s : Operand) (dT sT : TypeId)
    (ho : o.op = .call { callee := .builtin .copy, args := #[d, s], argTypes := #[dT, sT] }) (elem : TypeId) (hu : P.underlying dT = some (.slice elem)) (hsz : (P.info? elem).map (·.size) = some 1)
    (dp sp : Option Addr) (dLen dCap sLen sCap : Nat) (hd : a.eval d = .slice dp dLen dCap) (hs : a.eval s = .slice sp sLen sCap)
    (g off : Nat) (cur : List Value) (t : TypeId) (hg : w.heap[g]? = some (.cells cur.toArray t (0, 0))) (cs : List Value) (hn : cs.length = Nat.min sLen dLen)
    (hpos : 0 < cs.length → dp = some ⟨g, off, none⟩ ∧ ∃ ad, sp = some ad ∧ ∀ j v, cs[j]? = some v → w.cell? (ad.add j) = some v)
    (hfit : off + cs.length ≤ cur.length) (h1 : ∀ v ∈ cs, v.oneCell' = true)
    (h : ∀ w', Hid (w'.heap[g]? = some (.cells (splice cur off cs).toArray t (0, 0))) → Hid (Fr w w' g) → wpList P ops Q rest (a.put o.dst (goInt cs.length)) w') :
    wpList P ops Q (o :: rest) a w := by
  by_cases h0 : cs.length = 0
  · obtain rfl : cs = [] := List.eq_nil_of_length_eq_zero h0
    refine wpList_copy_nothing hgd d s dT sT ho elem hu hsz dp sp dLen dCap sLen sCap hd hs (by simpa using hn.symm) ?_
    exact h w (show _ = _ by simpa [splice] using hg) (Lib.hid (Fr.refl w g))
  · obtain ⟨rfl, ad, rfl, hsrc⟩ := hpos (by omega)
    refine wpList_copy_own hgd d s dT sT ho elem hu hsz g off dLen dCap ad sLen sCap hd hs cur.toArray t hg cs hn hsrc (by simpa using hfit) h1 ?_
    exact h _ (show _ = _ by simpa [splice] using setRow_heap w g _ _ t _ hg) (Lib.hid ((Fr.refl w g).setRow _))
theorem run_clear_row {P : Program} (w : World) (t e ty : TypeId) (z : Value) (ht : P.underlying t = some (.slice e)) (hv : ∀ w, (zeroValue e).run P w = .ok z w) (hz : z.cells = #[z]) (h1 : z.oneCell' = true) (g o n c : Nat) (hn : 0 < n)
    (cur : Array Value) (t' : TypeId) (hg : w.heap[g]? = some (.cells cur t' (0, 0))) (hfit : o + n ≤ cur.size) :
    (Builtin.clear_ #[t] ty #[.slice (some ⟨g, o, none⟩) n c]).run P w = .ok (.tuple #[]) (w.setRow g (cur.toList.take o ++ List.replicate n z ++ cur.toList.drop (o + n)).toArray) := by
  have hzc : (Builtin.zeroCells z.cells n).toList = List.replicate n z := by
    rw [hz]
    exact List.eq_replicate_iff.2 ⟨by simp [Builtin.zeroCells], fun u hu => by
      simp [Builtin.zeroCells, Nat.mod_one] at hu
      exact hu.2.symm⟩
  have hst := run_storeCells_at P g o t' (List.replicate n z) 0 cur w hg (by simpa using hfit) (by intro v hv'; rw [List.eq_of_mem_replicate hv']; exact h1)
  simp only [Nat.add_zero, List.length_replicate] at hst
  obtain ⟨m, rfl⟩ : ∃ m, n = m + 1 := ⟨n - 1, by omega⟩
  simp [Builtin.clear_, run_underlying ht, hv, hzc, hst]
theorem run_clear_none {P : Program} (w : World) (t e ty : TypeId) (ht : P.underlying t = some (.slice e)) (A : Option Addr) (c : Nat) :
    (Builtin.clear_ #[t] ty #[.slice A 0 c]).run P w = .ok (.tuple #[]) w := by
  cases A <;> simp [Builtin.clear_, run_underlying ht]
/-- clear on a part of a row that is known whole -/
theorem wp_clear {P : Program} {w : World} {ops : Array Oper} {rest : List Oper} {o : Oper} {a : Act} {Q : Exit → Act → World → Prop} (hgd : o.guard = none) (d : Operand) (dT : TypeId)
    (ho : o.op = .call { callee := .builtin .clear, args := #[d], argTypes := #[dT] }) (elem : TypeId) (hu : P.underlying dT = some (.slice elem)) (z : Value) (hv : ∀ w, (zeroValue elem).run P w = .ok z w) (hz1 : z.cells = #[z]) (hz2 : z.oneCell' = true)
    (dp : Option Addr) (dLen dCap : Nat) (hd : a.eval d = .slice dp dLen dCap)
    (g off : Nat) (cur : List Value) (t : TypeId) (hg : w.heap[g]? = some (.cells cur.toArray t (0, 0)))
    (hpos : 0 < dLen → dp = some ⟨g, off, none⟩) (hfit : off + dLen ≤ cur.length)
    (h : ∀ w', Hid (w'.heap[g]? = some (.cells (splice cur off (List.replicate dLen z)).toArray t (0, 0))) → Hid (Fr w w' g) → wpList P ops Q rest (a.put o.dst (.tuple #[])) w') :
    wpList P ops Q (o :: rest) a w := by
  by_cases h0 : dLen = 0
  · subst h0
    refine wpList_plain hgd fun K hK => ?_
    have hrun := run_clear_none (P := P) w dT elem o.type hu dp dCap
    unfold Oper.wp
    simp [execOp, ho, resolve, invoke, builtin, hd, hrun, Result.andThen]
    exact hK _ _ (h w (show _ = _ by simpa [splice] using hg) (Lib.hid (Fr.refl w g)))
  · obtain rfl := hpos (by omega)
    refine wpList_plain hgd fun K hK => ?_
    have hrun := run_clear_row (P := P) w dT elem o.type z hu hv hz1 hz2 g off dLen dCap (by omega) cur.toArray t hg (by simpa using hfit)
    unfold Oper.wp
    simp [execOp, ho, resolve, invoke, builtin, hd, hrun, Result.andThen]
    exact hK _ _ (h _ (show _ = _ by simpa [splice] using setRow_heap w g _ _ t _ hg) (Lib.hid ((Fr.refl w g).setRow _)))

/-- the words with all bits from n on false -/
def cutw (n : Nat) (ws : List Nat) : List Nat := (List.range 64).map fun i => ws.getD i 0 % 2 ^ (n - 64 * i)
theorem cutw_get (n : Nat) (ws : List Nat) (i : Nat) (h : i < 64) : (cutw n ws).getD i 0 = ws.getD i 0 % 2 ^ (n - 64 * i) := by
  simp [cutw, List.getD_eq_getElem?_getD, h]
theorem cutw_len (n : Nat) (ws : List Nat) : (cutw n ws).length = 64 := by simp [cutw]
theorem cutw_lt (n : Nat) {ws : List Nat} (h : ∀ i, ws.getD i 0 < 18446744073709551616) (i : Nat) : (cutw n ws).getD i 0 < 18446744073709551616 := by
  by_cases hi : i < 64
  · rw [cutw_get n ws i hi]
    exact Nat.lt_of_le_of_lt (Nat.mod_le _ _) (h i)
  · simp [cutw, List.getD_eq_getElem?_getD, hi]
theorem cutw_bit (n : Nat) (ws : List Nat) (i j : Nat) (h : i < 64) : ((cutw n ws).getD i 0).testBit j = (decide (64 * i + j < n) && (ws.getD i 0).testBit j) := by
  rw [cutw_get n ws i h, Nat.testBit_mod_two_pow]
  have : decide (j < n - 64 * i) = decide (64 * i + j < n) := decide_eq_decide.2 (by omega)
  rw [this]
theorem pow_ge64 {k : Nat} (h : 64 ≤ k) {x : Nat} (hx : x < 18446744073709551616) : x % 2 ^ k = x := by
  have : 2 ^ 64 ≤ 2 ^ k := Nat.pow_le_pow_right (by decide) h
  exact Nat.mod_eq_of_lt (by omega)
/-- what cut leaves, word by word -/
theorem cutw_eq (n q r : Nat) (hn : n = 64 * q + r) (hr : r < 64) {ws : List Nat} (hl : ws.length = 64) (h : ∀ i, ws.getD i 0 < 18446744073709551616) (hq : 0 < r → q < 64) (e : Nat) (he : e = if 0 < r then q + 1 else q) (hq2 : q ≤ 64) :
    ((if 0 < r then ws.set q (ws.getD q 0 % 2 ^ r) else ws).take e ++ List.replicate (64 - e) 0) = cutw n ws := by
  have hle : e ≤ 64 := by
    rw [he]
    split
    · rename_i h0
      have := hq h0
      omega
    · omega
  have hlen : (if 0 < r then ws.set q (ws.getD q 0 % 2 ^ r) else ws).length = 64 := by split <;> simp [hl]
  apply List.ext_getElem?
  intro i
  by_cases hi : i < 64
  · have e1 : (cutw n ws)[i]? = some (ws.getD i 0 % 2 ^ (n - 64 * i)) := by simp [cutw, hi]
    rw [e1]
    by_cases hie : i < e
    · rw [List.getElem?_append_left (by rw [List.length_take, hlen]; omega), List.getElem?_take, if_pos hie]
      have hw : ws[i]? = some (ws.getD i 0) := by simp [List.getD_eq_getElem?_getD, List.getElem?_eq_getElem (show i < ws.length by omega)]
      by_cases h0 : 0 < r
      · rw [if_pos h0, List.getElem?_set]
        rw [if_pos h0] at he
        by_cases hqi : q = i
        · subst hqi
          rw [if_pos rfl, if_pos (by omega), show n - 64 * q = r by omega]
        · rw [if_neg hqi, hw, pow_ge64 (by omega) (h i)]
      · rw [if_neg h0, hw]
        rw [if_neg h0] at he
        rw [pow_ge64 (by omega) (h i)]
    · rw [List.getElem?_append_right (by rw [List.length_take, hlen]; omega)]
      have hz : n - 64 * i = 0 := by
        by_cases h0 : 0 < r
        · rw [if_pos h0] at he; omega
        · rw [if_neg h0] at he; omega
      rw [hz, Nat.pow_zero, Nat.mod_one, List.getElem?_replicate, if_pos (by rw [List.length_take, hlen]; omega)]
  · rw [List.getElem?_eq_none (by rw [List.length_append, List.length_take, hlen, List.length_replicate]; omega), List.getElem?_eq_none (by rw [cutw_len]; omega)]
theorem fcells_clear (n e : Nat) (ws : List Nat) (hl : ws.length = 64) (he : e ≤ 64) : splice (fcells n ws) (1 + e) (List.replicate (64 - e) (Value.int .u64 0)) = fcells n (ws.take e ++ List.replicate (64 - e) 0) := by
  unfold splice fcells
  rw [Nat.add_comm 1 e, List.take_succ_cons]
  have : (Value.int IntKind.i64 ↑n :: List.map (fun (x : Nat) => Value.int IntKind.u64 (x : Int)) ws).drop (e + 1 + (List.replicate (64 - e) (Value.int .u64 0)).length) = [] := by
    apply List.drop_eq_nil_of_le
    simp
    omega
  rw [this]
  simp [List.map_take]
theorem slice_l' (b q : Nat) (hq : q ≤ 64) : ∃ ad, (∀ W, (Instr.sliceAt 62 (.pointer (some ⟨b, 1, none⟩)) (some (.int .i64 (q : Int))) none none).run Tryd.prog W = .ok (.slice (some ad) (64 - q) (64 - q)) W) ∧ Hid (q < 64 → ad = ⟨b, 1 + q, none⟩) :=
  ⟨_, slice_l b q hq, Lib.hid (fun h => by rw [if_neg (by omega)])⟩
set_option maxHeartbeats 1000000 in
theorem cut_any {w : World} {b n : Nat} {ws : List Nat} (h : Raw w b n ws) : Calls Tryd.prog 49 #[.pointer (some ⟨b, 0, none⟩)] w fun e w' => e = .returned (.tuple #[]) ∧ Raw w' b n (cutw n ws) ∧ Fr w w' b := by
  have hn := h.le
  have hc := h.size
  have H := Lib.hid h
  obtain ⟨q, e1⟩ : ∃ q, q = n / 64 := ⟨_, rfl⟩
  obtain ⟨r, e2⟩ : ∃ r, r = n % 64 := ⟨_, rfl⟩
  have a1 : (n : Int) / 64 = (q : Int) := by omega
  have a2 : (n : Int) % 64 = (r : Int) := by omega
  have hr : r < 64 := by omega
  have hq : q ≤ 64 := by omega
  have hq0 : 0 < r → q < 64 := by omega
  have E : Hid (n = 64 * q + r) := Lib.hid (by omega)
  have C := Lib.hid (cutw_eq n q r E.out hr h.len h.lt hq0)
  have HL := Lib.hid h.len
  clear h e1 e2
  by_cases h0 : 0 < r
  · have hq1 := hq0 h0
    have hcell := H.out.cell q hq1
    have hfz := H.out.frozen (1 + q)
    have HB : Hid (Calls Tryd.prog 36 #[.int .i64 r] w.drew fun e w' => e = .returned (.int .u64 (2 ^ r - 1 : Nat)) ∧ w' = w.drew) := Lib.hid ((below_any r hr w.drew).mono fun _ _ h => ⟨h.1, h.2.symm⟩)
    have hand := and_low (ws.getD q 0) r (H.out.lt q) hr
    have ix := index62 b q hq1
    have wq : IntKind.i64.wrap (q : Int) = (q : Int) := by rw [IntKind.wrap_i64]; omega
    have hV : ws.getD q 0 % 2 ^ r < 18446744073709551616 := Nat.lt_of_le_of_lt (Nat.mod_le _ _) (H.out.lt q)
    have HR := Lib.hid ((H.out.drewN 1).set q _ hV)
    have CC := Lib.hid (C.out (q + 1) (by rw [if_pos h0]) (by omega))
    rw [if_pos h0] at CC
    have HF := Lib.hid (fun V => ((Fr.refl w b).drewN 1).setCell (p := ⟨b, 1 + q, none⟩) rfl V)
    generalize ws.getD q 0 % 2 ^ r = V at *
    generalize ws.getD q 0 = W at *
    generalize 2 ^ r - 1 = M at *
    obtain ⟨e, he⟩ : ∃ e, e = q + 1 := ⟨_, rfl⟩
    have ae : (q : Int) + 1 = (e : Int) := by omega
    have he64 : e ≤ 64 := by omega
    obtain ⟨ad, hs, had⟩ := slice_l' b e he64
    rw [← he] at CC
    clear hq0 C he
    go_enter Tryd.func49, Tryd.ntmps49
    go_wp2_with fail
    refine wp_region_still_tail 12 (by kernel_rfl) (by kernel_rfl) ?_
    simp only [List.take_succ_cons, List.take_zero, List.drop_succ_cons, List.drop_zero]
    repeat still_step
    still_call HB.out
    repeat still_step
    refine wpStill_nil ?_
    change wpList _ _ _ _ _ w.drew
    go_wp2_with (refine wp_clear rfl (.tmp 34) 69 rfl 61 Tryd.underlying69 (.int .u64 0) Tryd.zeroValue61 rfl rfl _ _ _ rfl b (1 + e) _ 64 HR.out.box ?_ ?_ ?_)
    · intro h
      rw [had.out (by omega)]
    · rw [fcells_len, List.length_set, HL.out]
      omega
    intro w2 HB2 HF2
    go_wp2_with fail
    go_end0
    have hb := HB2.out
    rw [fcells_clear n e _ (by rw [List.length_set]; exact HL.out) he64, CC.out] at hb
    exact ⟨rfl, ⟨hb, cutw_len _ _, cutw_lt n H.out.lt, hn⟩, (HF.out _).trans HF2.out⟩
  · obtain rfl : r = 0 := by omega
    obtain ⟨ad, hs, had⟩ := slice_l' b q hq
    have CC := Lib.hid (C.out q (by rw [if_neg h0]) hq)
    rw [if_neg h0] at CC
    clear hq0 C
    go_enter Tryd.func49, Tryd.ntmps49
    go_wp2_with (refine wp_clear rfl (.tmp 34) 69 rfl 61 Tryd.underlying69 (.int .u64 0) Tryd.zeroValue61 rfl rfl _ _ _ rfl b (1 + q) _ 64 H.out.box ?_ ?_ ?_)
    · intro h
      rw [had.out (by omega)]
    · rw [fcells_len, HL.out]
      omega
    intro w2 HB2 HF2
    go_wp2_with fail
    go_end0
    have hb := HB2.out
    rw [fcells_clear n q _ HL.out hq, CC.out] at hb
    exact ⟨rfl, ⟨hb, cutw_len _ _, cutw_lt n H.out.lt, hn⟩, HF2.out⟩
end Go.Proofs.YtbdjpacmbaoaeaaDoor
