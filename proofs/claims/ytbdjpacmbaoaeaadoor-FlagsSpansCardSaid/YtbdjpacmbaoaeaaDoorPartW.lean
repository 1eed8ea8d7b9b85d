/- The walk of part. -/
import Derived.Test.YtbdjpacmbaoaeaaDoorPartM
namespace Go.Proofs.YtbdjpacmbaoaeaaDoor
open Go.RowKit

theorem slice_lh' (b p q : Nat) (hpq : p ≤ q) (hq : q ≤ 64) : ∃ ad, (∀ W, (Instr.sliceAt 62 (.pointer (some ⟨b, 1, none⟩)) (some (.int .i64 (p : Int))) (some (.int .i64 (q : Int))) none).run Tryd.prog W = .ok (.slice (some ad) (q - p) (64 - p)) W) ∧ Hid (p < 64 → ad = ⟨b, 1 + p, none⟩) :=
  ⟨_, slice_lh b p q hpq hq, Lib.hid (fun h => by rw [if_neg (by omega)])⟩
theorem one61 : (Tryd.prog.info? 61).map (·.size) = some 1 := by kernel_rfl
theorem add_plain (b off i : Nat) : (⟨b, off, none⟩ : Addr).add i = ⟨b, off + i, none⟩ := by
  unfold Addr.add
  split <;> simp_all
/-- copy as a step of a region that draws -/
theorem step_copy {P : Program} {ops : Array Oper} {o : Oper} {a : Act} {w : World} {K : Act → World → Prop} {Q : Exit → Act → World → Prop} {E : Prop} (hgd : o.guard = none) (d s : Operand) (dT sT : TypeId)
    (ho : o.op = .call { callee := .builtin .copy, args := #[d, s], argTypes := #[dT, sT] }) (elem : TypeId) (hu : P.underlying dT = some (.slice elem)) (hsz : (P.info? elem).map (·.size) = some 1)
    (dp sp : Option Addr) (dLen dCap sLen sCap : Nat) (hd : a.eval d = .slice dp dLen dCap) (hs : a.eval s = .slice sp sLen sCap)
    (g off : Nat) (cur : List Value) (t : TypeId) (hg : w.heap[g]? = some (.cells cur.toArray t (0, 0))) (cs : List Value) (hn : cs.length = Nat.min sLen dLen)
    (hpos : 0 < cs.length → dp = some ⟨g, off, none⟩ ∧ ∃ ad, sp = some ad ∧ ∀ j v, cs[j]? = some v → w.cell? (ad.add j) = some v)
    (hfit : off + cs.length ≤ cur.length) (h1 : ∀ v ∈ cs, v.oneCell' = true)
    (h : ∀ w', Hid (w'.heap[g]? = some (.cells (splice cur off cs).toArray t (0, 0))) → Hid (Fr w w' g) → K (a.put o.dst (goInt cs.length)) w') :
    if Region.wanted o (yielded ops a.tmps) = true then Oper.wp P o a w K Q else E := by
  have hw : Region.wanted o (yielded ops a.tmps) = true := by simp [Region.wanted, hgd]
  rw [if_pos hw]
  by_cases h0 : cs.length = 0
  · obtain rfl : cs = [] := List.eq_nil_of_length_eq_zero h0
    have hrun := run_copy_none (P := P) w dT sT o.type elem dp sp dLen dCap sLen sCap hu hsz (by simpa using hn.symm)
    unfold Oper.wp
    simp [execOp, ho, resolve, invoke, builtin, hd, hs, hrun, Result.andThen]
    exact h w (show _ = _ by simpa [splice] using hg) (Lib.hid (Fr.refl w g))
  · obtain ⟨rfl, ad, rfl, hsrc⟩ := hpos (by omega)
    have hrun := run_copy_row (P := P) w dT sT o.type elem g off dLen dCap ad sLen sCap cur.toArray t cs hu hsz hg hn hsrc (by simpa using hfit) h1
    unfold Oper.wp
    simp [execOp, ho, resolve, invoke, builtin, hd, hs, hrun, Result.andThen]
    exact h _ (show _ = _ by simpa [splice] using setRow_heap w g _ _ t _ hg) (Lib.hid ((Fr.refl w g).setRow _))
/-- what is true of the world of part ahead of each round -/
structure PartI (w wr : World) (l : List Bool) (Z : Array Value) (O n k r m j : Nat) : Prop where
  row : Raw wr O n (shw l k r m j)
  res : wr.heap[w.heap.size]? = some (.cells Z 64 (0, 0))
  below : Below w.heap.size w wr
  size : w.heap.size + 2 ≤ wr.heap.size
  o : O = w.heap.size + 1
theorem PartI.step {w wr wr' : World} {l : List Bool} {Z : Array Value} {O n k r m j j' : Nat} (h : PartI w wr l Z O n k r m j) (hr : Raw wr' O n (shw l k r m j')) (hf : Fr wr wr' O) : PartI w wr' l Z O n k r m j' :=
  ⟨hr, (hf.block _ (by have := h.size; omega) (by have := h.o; omega)).trans h.res, h.below.trans (hf.below (by have := h.o; omega) (by have := h.size; omega)), Nat.le_trans h.size hf.size, h.o⟩
set_option maxHeartbeats 4000000 in
theorem part_in {w : World} {b : Nat} {l : List Bool} (h : Fl w b l) (a n : Nat) (han : a + n ≤ l.length) : Calls Tryd.prog 41 #[.pointer (some ⟨b, 0, none⟩), .int .i64 a, .int .i64 n] w (Gv w ((l.drop a).take n)) := by
  have hl := h.le
  have hn : n ≤ 4096 := by omega
  have hlb := h.lt_size
  obtain ⟨Z, hZ, hZs, hZn, hz⟩ := zero64'
  have HC : Hid (Z.setIfInBounds 0 (.int .i64 (n : Int)) = (fcells n zs).toArray) := Lib.hid (by rw [hZ.out]; simp [fcells])
  obtain ⟨C, hC⟩ : ∃ C, Z.setIfInBounds 0 (.int .i64 (n : Int)) = C := ⟨_, rfl⟩
  rw [hC] at HC
  obtain ⟨W0, hR, hF, hB, hsz, hW0⟩ : ∃ W0 : World, Hid (W0.heap[w.heap.size]? = some (.cells Z 64 (0, 0))) ∧ Hid (W0.heap[w.heap.size + 1]? = some (.cells Z 64 (0, 0))) ∧ Hid (Below w.heap.size w W0) ∧ Hid (w.heap.size + 2 ≤ W0.heap.size) ∧
      (w.alloc (.cells Z 64)).alloc (.cells Z 64) = W0 :=
    ⟨_, Lib.hid (heap_alloc2_old w _ _), Lib.hid (heap_alloc2_new w _ _), Lib.hid (((Below.refl _ w).alloc (Nat.le_refl _) _).alloc (by simp) _), Lib.hid (by simp), rfl⟩
  have H := Lib.hid h
  clear h
  go_enter Tryd.func41, Tryd.ntmps41
  go_wp2_with (first | (refine wp_store64 rfl (.tmp 7) (.tmp 12) rfl (w.heap.size + 1) rfl C rfl n zs HC.out (by decide) Z hF.out hZs.out ?_))
  intro w1 H1 F1
  have HR1 : Hid (w1.heap[w.heap.size]? = some (.cells Z 64 (0, 0))) := Lib.hid ((F1.out.block _ (by have := hsz.out; omega) (by omega)).trans hR.out)
  have HB1 : Hid (Below w.heap.size w w1) := Lib.hid (hB.out.trans (F1.out.below (by omega) (by have := hsz.out; omega)))
  have HS1 : Hid (w.heap.size + 2 ≤ w1.heap.size) := Lib.hid (by have := F1.out.size; have := hsz.out; omega)
  have HL1 : Hid (Fl w1 b l) := Lib.hid (H.out.heap (HB1.out.block b hlb))
  have HO1 : Hid (w1.heap[w.heap.size + 1]? = some (.cells (fcells n zs).toArray 64 (0, 0))) := Lib.hid (by rw [← HC.out]; exact H1.out)
  obtain ⟨k, hk⟩ : ∃ k, k = a / 64 := ⟨_, rfl⟩
  obtain ⟨r, hr⟩ : ∃ r, r = a % 64 := ⟨_, rfl⟩
  obtain ⟨e, he⟩ : ∃ e, e = (a + n + 63) / 64 := ⟨_, rfl⟩
  obtain ⟨s, hs⟩ : ∃ s, s = a + n := ⟨_, rfl⟩
  have ak : (a : Int) / 64 = (k : Int) := by omega
  have ar : (a : Int) % 64 = (r : Int) := by omega
  have asm : (a : Int) + (n : Int) = (s : Int) := by omega
  have hr64 : r < 64 := by omega
  have hke : k ≤ e := by omega
  have he64 : e ≤ 64 := by omega
  have EA : Hid (a = 64 * k + r) := Lib.hid (by omega)
  have EE : Hid (e = (a + n + 63) / 64) := Lib.hid he
  obtain ⟨O, hO⟩ : ∃ O, O = w.heap.size + 1 := ⟨_, rfl⟩
  rw [← hO] at HO1
  rw [← hO]
  have EO := Lib.hid hO
  have HW : Hid (Calls Tryd.prog 37 #[.int .i64 s] w1.drew fun e' w' => e' = .returned (.int .i64 e) ∧ w' = w1.drew) := Lib.hid (by
    have h0 : Calls Tryd.prog 37 #[.int .i64 s] w1.drew fun e' w' => e' = .returned (.int .i64 ((s + 63) / 64 : Nat)) ∧ w' = w1.drew := (wordsOf_any s (by omega) w1.drew).mono fun _ _ h => ⟨h.1, h.2.symm⟩
    rw [hs, ← he] at h0
    rw [hs]
    exact h0)
  obtain ⟨ad, hs1, had⟩ := slice_lh' b k e hke he64
  have hs2 := slice_all O
  obtain ⟨m, hm⟩ : ∃ m, e - k = m := ⟨_, rfl⟩
  have hs3 := slice_h O m (by omega)
  have hkm : k + m ≤ 64 := by omega
  have hm64 : m ≤ 64 := by omega
  have EM := Lib.hid hm
  rw [hm] at hs1
  have wk : IntKind.i64.wrap (k : Int) = (k : Int) := by rw [IntKind.wrap_i64]; omega
  have ws : IntKind.i64.wrap (s : Int) = (s : Int) := by rw [IntKind.wrap_i64]; omega
  clear hW0 hC hz hZn hk hr he hs hO hm H1 F1 hB hsz hR hF
  go_wp2_with fail
  obtain ⟨cs, hcs⟩ : ∃ cs, cs = ((((words l).drop k).take m).map fun (x : Nat) => Value.int .u64 (x : Int)) := ⟨_, rfl⟩
  have hcl : cs.length = m := by rw [hcs, List.length_map, List.length_take, List.length_drop, words_len]; omega
  have HC1 : Hid (cs.length = Nat.min m 64) := Lib.hid (by rw [hcl]; show m = min m 64; omega)
  have HC2 : Hid (0 < cs.length → ∀ j v, cs[j]? = some v → w1.cell? (ad.add j) = some v) := Lib.hid (by
    intro h0
    rw [had.out (by omega), hcs]
    intro j v hv
    rw [List.getElem?_map, words_drop l k m hkm] at hv
    by_cases hj : j < m
    · rw [if_pos hj] at hv
      simp only [Option.map_some, Option.some.injEq] at hv
      rw [add_plain, ← hv]
      have := HL1.out.cell (k + j) (by omega)
      rw [words_get l _ (by omega), ← Nat.add_assoc] at this
      exact this
    · rw [if_neg hj] at hv
      simp at hv)
  have HC3 : Hid (1 + cs.length ≤ (fcells n zs).length) := Lib.hid (by rw [hcl, fcells_len]; simp [zs]; omega)
  have HC4 : Hid (∀ v ∈ cs, v.oneCell' = true) := Lib.hid (by
    rw [hcs]
    intro v hv
    obtain ⟨x, _, rfl⟩ := List.mem_map.1 hv
    rfl)
  have HCS := Lib.hid hcs
  clear hcs
  go_region_held3 (fun _ => True)
    (trivial)
    (first
      | (go_at_call 37; refine HW.out.mono ?_; rintro q w' ⟨rfl, rfl⟩)
      | (refine step_copy rfl (.tmp 15) (.tmp 25) 69 69 rfl 61 Tryd.underlying69 one61 _ _ _ _ _ _ rfl rfl O 1 _ 64 HO1.out cs HC1.out (fun h0 => ⟨rfl, ad, rfl, HC2.out h0⟩) HC3.out HC4.out ?_
         intro w2 H2 F2))
  have HI : Hid (PartI w w2 l Z O n k r m 0) := Lib.hid (by
    have h2 := H2.out
    rw [HCS.out, splice_part l n k r m hkm] at h2
    have hf : Fr w1 w2 O := ((Fr.refl w1 O).drewN 1).trans F2.out
    have ho := EO.out
    have hs := HS1.out
    exact ⟨⟨h2, shw_len _ _ _ _ _, shw_lt _ _ _ _ _, hn⟩, (hf.block _ (by omega) (by omega)).trans HR1.out, HB1.out.trans (hf.below (by omega) (by omega)), Nat.le_trans hs hf.size, ho⟩)
  clear H2 F2 HCS had hs1 hs2 HO1 HL1 HR1 HB1 HS1 HW HC H wk ws ak asm
  go_wp2_with fail
  try rw [ar]
  simp only [goInt]
  clear hs3 ar hcl
  go_loopw [32] (fun i wr => ∃ (j : Nat), i = .int .i64 j ∧ j ≤ m ∧ Hid (PartI w wr l Z O n k r m j)) (fun i _ => m - (intOf i).toNat)
  case atStart => exact ⟨0, rfl, Nat.zero_le _, HI⟩
  case round =>
    obtain ⟨j, rfl, hj, HP⟩ := hrel
    by_cases hlt : j < m
    · have hg := shw_get l k r m j j (by omega)
      rw [if_neg (by omega), if_pos hlt] at hg
      have hc := HP.out.row.cell j (by omega)
      rw [hg] at hc
      have hf := HP.out.row.frozen (1 + j)
      have hv := int_div_pow (word l (k + j)) r
      have hvl := div_lt64 (word l (k + j)) r (word_lt l _)
      have HS1 := Lib.hid (HP.out.row.set j _ hvl)
      have HF1 := Lib.hid ((Fr.refl wr O).setCell (p := ⟨O, 1 + j, none⟩) rfl (.int .u64 ((word l (k + j) / 2 ^ r : Nat) : Int)))
      by_cases h1 : j + 1 < m
      · have EV : Hid (mvw l k r m j = (word l (k + j) / 2 ^ r) ||| (word l (k + j + 1) * 2 ^ (64 - r) % 18446744073709551616)) := Lib.hid (by unfold mvw; rw [if_pos h1])
        generalize word l (k + j) / 2 ^ r = V1 at *
        generalize word l (k + j) = W1 at *
        have HS2 : Hid (Raw (wr.setCell ⟨O, 1 + j, none⟩ (.int .u64 (V1 : Int))) O n ((shw l k r m j).set j V1)) := HS1
        clear hg HS1
        go_wp2_with fail
        obtain ⟨X, HX, HF2, hX⟩ : ∃ X : World, Hid (Raw X O n ((shw l k r m j).set j V1)) ∧ Hid (Fr wr X O) ∧ X = wr.setCell ⟨O, 1 + j, none⟩ (.int .u64 (V1 : Int)) := ⟨_, HS2, HF1, rfl⟩
        try rw [← hX]
        have c1 := HX.out.cell j (by omega)
        rw [getD_set, shw_len, if_pos ⟨rfl, by omega⟩] at c1
        obtain ⟨jj, hjj⟩ : ∃ jj : Nat, jj = j + 1 := ⟨_, rfl⟩
        have c2 : X.cell? ⟨O, 1 + jj, none⟩ = some (.int .u64 (word l (k + j + 1) : Nat)) := by
          have := HX.out.cell jj (by omega)
          rw [getD_set, if_neg (by omega), shw_get l k r m j jj (by omega), if_neg (by omega), if_pos (by omega)] at this
          rw [show k + j + 1 = k + jj by omega]
          exact this
        generalize word l (k + j + 1) = W2 at *
        have ajj : (j : Int) + 1 = (jj : Int) := by omega
        have hjj2 : Hid (jj = j + 1) := Lib.hid hjj
        have wjj : IntKind.i64.wrap (jj : Int) = (jj : Int) := by rw [IntKind.wrap_i64]; omega
        have hjm : jj < m := by omega
        obtain ⟨t, ht⟩ : ∃ t : Nat, t = 64 - r := ⟨_, rfl⟩
        have at1 : (64 : Int) - (r : Int) = (t : Int) := by omega
        have wt : IntKind.i64.wrap (t : Int) = (t : Int) := by rw [IntKind.wrap_i64]; omega
        have ht64 : t ≤ 64 := by omega
        rw [← ht] at EV
        obtain ⟨S, hS⟩ : ∃ S, S = W2 * 2 ^ t % 18446744073709551616 := ⟨_, rfl⟩
        have f1 : IntKind.u64.wrap ((W2 : Int) * 2 ^ t) = (S : Int) := by rw [hS, int_two_pow, IntKind.wrap_u64]; simp
        have f2 : IntKind.u64.wrap ((W2 : Int) * 2 ^ min t 64) = (S : Int) := by rw [Nat.min_eq_left ht64]; exact f1
        have hSl : S < 18446744073709551616 := by rw [hS]; exact Nat.mod_lt _ (by decide)
        have f3 := bits_or_u64_nat V1 S hvl hSl
        rw [← hS] at EV
        have HN : Hid (Raw ((X.drew).setCell ⟨O, 1 + j, none⟩ (.int .u64 ((V1 ||| S : Nat) : Int))) O n (shw l k r m (j + 1))) := Lib.hid (by
          have h := (HX.out.drewN 1).set j (V1 ||| S) (or_lt64 _ _ hvl hSl)
          rw [← EV.out, shw_set l k r m j V1 (by omega)] at h
          rw [← EV.out]
          exact h)
        have HP2 : Hid (PartI w ((X.drew).setCell ⟨O, 1 + j, none⟩ (.int .u64 ((V1 ||| S : Nat) : Int))) l Z O n k r m (j + 1)) := Lib.hid (HP.out.step HN.out ((HF2.out.drewN 1).setCell (p := ⟨O, 1 + j, none⟩) rfl _))
        generalize V1 ||| S = V2 at *
        clear hX HS2 HF1 hjj ht hc hf hv hS HN EV
        refine wp_region_still_tail 14 (by kernel_rfl) (by kernel_rfl) ?_
        simp only [List.take_succ_cons, List.take_zero, List.drop_succ_cons, List.drop_zero]
        repeat still_step
        refine wpStill_nil ?_
        change wpList _ _ _ _ _ X.drew
        have hfz := HX.out.frozen (1 + j)
        go_wp2_with fail
        go_roundw
        case rel => exact ⟨jj, rfl, by omega, by have := hjj2.out; subst this; exact HP2⟩
        case measure => simp [intOf]; omega
      · have EV : Hid (mvw l k r m j = word l (k + j) / 2 ^ r) := Lib.hid (by unfold mvw; rw [if_neg h1])
        have HN : Hid (Raw (wr.setCell ⟨O, 1 + j, none⟩ (.int .u64 ((word l (k + j) / 2 ^ r : Nat) : Int))) O n (shw l k r m (j + 1))) := Lib.hid (by
          have h := HS1.out
          have e := shw_set l k r m j 0 (by omega)
          rw [List.set_set, EV.out] at e
          rw [← e]
          exact h)
        have HP2 : Hid (PartI w (wr.setCell ⟨O, 1 + j, none⟩ (.int .u64 ((word l (k + j) / 2 ^ r : Nat) : Int))) l Z O n k r m (j + 1)) := Lib.hid (HP.out.step HN.out HF1.out)
        generalize word l (k + j) / 2 ^ r = V1 at *
        generalize word l (k + j) = W1 at *
        clear hg HS1 HF1 HN EV
        go_wp2_with fail
        go_roundw
        case rel => exact ⟨j + 1, by go_num, by omega, HP2⟩
        case measure => simp [intOf]; omega
    · obtain rfl : j = m := by omega
      have KC := Lib.hid (cut_any HP.out.row)
      rw [cut_shw l a n k r j EA.out hr64 (by rw [← EM.out, EE.out]) hn] at KC
      go_wp2_with fail
      refine KC.out.mono ?_
      rintro q w3 ⟨rfl, RW3, F3⟩
      have HR3 : Hid (w3.heap[w.heap.size]? = some (.cells Z 64 (0, 0))) := Lib.hid ((F3.block _ (by have := HP.out.size; omega) (by have := HP.out.o; omega)).trans HP.out.res)
      have HW3 := Lib.hid RW3
      have HF3 := Lib.hid F3
      clear RW3 F3
      go_wp2_with (first | (refine wp_load64 rfl (.tmp 7) rfl O rfl _ HW3.out.box (fcells_size n HW3.out.len) ?_) | (refine wp_store64 rfl (.tmp 6) (.tmp 63) rfl w.heap.size rfl _ rfl n (words ((l.drop a).take n)) rfl (words_len _) Z HR3.out hZs.out ?_))
      intro w4 H4 F4
      go_wp2_with fail
      refine bodyPost_ret (res64 rfl _ _ w.heap.size _ rfl H4.out (fcells_size n (words_len _))) rfl ?_
      refine ⟨?_, ?_⟩
      · rw [fl_eq _ n (by simp; omega)]
      · exact (HP.out.below.trans (HF3.out.below (by have := HP.out.o; omega) (by have := HP.out.size; omega))).trans (F4.out.below (Nat.le_refl _) (by have := HF3.out.size; have := HP.out.size; omega))
end Go.Proofs.YtbdjpacmbaoaeaaDoor
