/- The walk of join. -/
import Derived.Test.YtbdjpacmbaoaeaaDoorJoinM
import Derived.Test.YtbdjpacmbaoaeaaDoorPartW
import Derived.Deep.MidRow
namespace Go.Proofs.YtbdjpacmbaoaeaaDoor
open Go.RowKit

theorem run_store61 (w : World) (a : Addr) (v u : Value) (hv : v.oneCell' = true) (hc : w.cell? a = some u) (hf : w.frozen? a = false) : (storeVar 61 a v).run Tryd.prog w = .ok () (w.setCell a v) := by
  have h1 : v.cells = #[v] := by cases v <;> first | rfl | simp [Value.oneCell'] at hv
  have hadd : a.add 0 = a := by unfold Addr.add; split <;> simp_all
  simp [storeVar, h1, storeCells, hadd, run_store, hc, hf, hv]
/-- one word is stored -/
theorem wp_store61 {w : World} {ops : Array Oper} {rest : List Oper} {o : Oper} {a : Act} {Q : Exit → Act → World → Prop} (hgd : o.guard = none) (x y : Operand) (ho : o.op = .store 61 x y)
    (b q : Nat) (hx : a.eval x = .pointer (some ⟨b, 1 + q, none⟩)) (V : Nat) (hy : a.eval y = .int .u64 (V : Int)) (n : Nat) (ws : List Nat) (hR : Raw w b n ws) (hq : q < 64) (hV : V < 18446744073709551616)
    (h : ∀ w', Hid (Raw w' b n (ws.set q V)) → Hid (Fr w w' b) → wpList Tryd.prog ops Q rest (a.put o.dst undef) w') : wpList Tryd.prog ops Q (o :: rest) a w := by
  refine wpList_plain hgd fun K hK => ?_
  unfold Oper.wp execOp
  simp only [ho, hx, hy, Instr.storeAt, Instr.sureAddr, Sem.run_bind, Sem.run_pure, Result.andThen_ok, run_store61 w ⟨b, 1 + q, none⟩ (.int .u64 (V : Int)) _ rfl (hR.cell q hq) (hR.frozen _)]
  exact hK _ _ (h _ (Lib.hid (hR.set q V hV)) (Lib.hid ((Fr.refl w b).setCell rfl _)))
/-- a row of lists of bits -/
def LsAt (w : World) (A : Nat) (ls : List (List Bool)) : Prop := ∀ t (h : t < ls.length), w.rangeAt A (t * 65) (fcells ls[t].length (words ls[t]))
theorem LsAt.heap {w w' : World} {A : Nat} {ls : List (List Bool)} (h : LsAt w A ls) (e : w'.heap[A]? = w.heap[A]?) : LsAt w' A ls := by
  intro t ht j v hv
  have := h t ht j v hv
  unfold World.cell? at this ⊢
  simp only [e]
  exact this
theorem Raw.setSize {w : World} {b n : Nat} {ws : List Nat} (h : Raw w b n ws) (n' : Nat) (hn : n' ≤ 4096) : Raw (w.setCell ⟨b, 0, none⟩ (.int .i64 (n' : Int))) b n' ws :=
  ⟨by
    have e : (fcells n ws).toArray.setIfInBounds 0 (.int .i64 (n' : Int)) = (fcells n' ws).toArray := by simp [fcells]
    rw [← e]
    exact heap_setCell_same w b 0 _ 64 _ h.box, h.len, h.lt, hn⟩
/-- what is true of the world of join between two lists -/
structure JoinI (w wr : World) (A O : Nat) (ls : List (List Bool)) (Z : Array Value) (acc : List Bool) : Prop where
  row : Raw wr O acc.length (words acc)
  res : wr.heap[w.heap.size]? = some (.cells Z 64 (0, 0))
  src : LsAt wr A ls
  below : Below w.heap.size w wr
  size : w.heap.size + 2 ≤ wr.heap.size
  o : O = w.heap.size + 1
  a : A < w.heap.size
theorem JoinI.step {w wr wr' : World} {A O : Nat} {ls : List (List Bool)} {Z : Array Value} {acc acc' : List Bool} (h : JoinI w wr A O ls Z acc) (hr : Raw wr' O acc'.length (words acc')) (hf : Fr wr wr' O) : JoinI w wr' A O ls Z acc' :=
  ⟨hr, (hf.block _ (by have := h.size; omega) (by have := h.o; omega)).trans h.res, h.src.heap (hf.block _ (by have := h.size; have := h.a; omega) (by have := h.o; have := h.a; omega)), h.below.trans (hf.below (by have := h.o; omega) (by have := h.size; omega)), Nat.le_trans h.size hf.size, h.o, h.a⟩
theorem JoinI.far {w wr wr' : World} {A O L : Nat} {ls : List (List Bool)} {Z : Array Value} {acc : List Bool} (h : JoinI w wr A O ls Z acc) (hf : Fr wr wr' L) (hL : wr.heap.size ≤ L) : JoinI w wr' A O ls Z acc :=
  ⟨h.row.heap (hf.block _ h.row.lt_size (by have := h.row.lt_size; omega)), (hf.block _ (by have := h.size; omega) (by have := h.size; omega)).trans h.res, h.src.heap (hf.block _ (by have := h.size; have := h.a; omega) (by have := h.size; have := h.a; omega)),
    h.below.trans (hf.below (by have := h.size; omega) (by have := h.size; omega)), Nat.le_trans h.size hf.size, h.o, h.a⟩
set_option maxHeartbeats 4000000 in
theorem join_any (A : Nat) (ls : List (List Bool)) (w : World) (hs : LsAt w A ls) (hA : A < w.heap.size) (hlen : ls.flatten.length ≤ 4096) (hN : ls.length ≤ 10) : Calls Tryd.prog 40 #[.slice (some ⟨A, 0, none⟩) ls.length ls.length] w (Gv w ls.flatten) := by
  obtain ⟨Z, hZ, hZs, hZn, hz⟩ := zero64'
  obtain ⟨W0, HI, hW0⟩ : ∃ W0 : World, Hid (JoinI w W0 A (w.heap.size + 1) ls Z []) ∧ (w.alloc (.cells Z 64)).alloc (.cells Z 64) = W0 := by
    have hb : Below w.heap.size w ((w.alloc (.cells Z 64)).alloc (.cells Z 64)) := ((Below.refl _ w).alloc (Nat.le_refl _) _).alloc (by simp) _
    refine ⟨_, Lib.hid ⟨⟨?_, words_len _, words_lt _, by simp⟩, heap_alloc2_old w _ _, hs.heap (hb.block A hA), hb, by simp, rfl, hA⟩, rfl⟩
    rw [← zs_words, List.length_nil, ← hZ.out]
    exact heap_alloc2_new w _ _
  obtain ⟨O, hO⟩ : ∃ O, O = w.heap.size + 1 := ⟨_, rfl⟩
  rw [← hO] at HI
  have HL := Lib.hid hlen
  obtain ⟨N, hNe⟩ : ∃ N, N = ls.length := ⟨_, rfl⟩
  have EN := Lib.hid hNe
  rw [← hNe] at hN ⊢
  clear hs hA hlen hNe
  go_enter Tryd.func40, Tryd.ntmps40
  go_wp2_with fail
  rw [← hO]
  clear hO
  go_loopw [13] (fun i wr => ∃ (t : Nat) (acc : List Bool), i = .int .i64 t ∧ t ≤ N ∧ Hid (acc = (ls.take t).flatten) ∧ Hid (JoinI w wr A O ls Z acc)) (fun i _ => N - (intOf i).toNat)
  case atStart => exact ⟨0, [], rfl, Nat.zero_le _, Lib.hid (by simp), HI⟩
  case round =>
    obtain ⟨t, acc, rfl, ht, HAc, HJ⟩ := hrel
    by_cases hlt : t < N
    · obtain ⟨l, hl⟩ : ∃ l, l = ls[t]'(by have := EN.out; omega) := ⟨_, rfl⟩
      have HS : Hid (wr.rangeAt A (t * 65) (fcells l.length (words l))) := Lib.hid (by rw [hl]; exact HJ.out.src t (by have := EN.out; omega))
      have HA2 : Hid (acc ++ l = (ls.take (t + 1)).flatten) := Lib.hid (by
        rw [HAc.out, hl, List.take_add_one, List.getElem?_eq_getElem (show t < ls.length by have := EN.out; omega)]
        simp only [Option.toList_some, List.flatten_append, List.flatten_cons, List.flatten_nil, List.append_nil])
      have HLn : Hid (acc.length + l.length ≤ 4096) := Lib.hid (by
        have e : ls.flatten = (acc ++ l) ++ (ls.drop (t + 1)).flatten := by rw [HA2.out, ← List.flatten_append, List.take_append_drop]
        have := HL.out
        rw [e] at this
        simp at this
        omega)
      clear hl HI
      rename World => wA
      have HG : Hid ((wA.alloc (.cells Z 64)).heap[wA.heap.size]? = some (.cells Z 64 (0, 0))) := Lib.hid (heap_alloc_new _ _)
      go_wp2_with (first | (refine wpList_load_mid rfl 64 (.tmp 15) rfl A (t * 65) rfl _ _ HS.out Tryd.underlying64 rfl (by rw [fcells_len, words_len]; exact size64) ?_) | (refine wp_store64 rfl (.tmp 5) (.tmp 16) rfl wA.heap.size rfl _ rfl l.length (words l) rfl (words_len _) Z HG.out hZs.out ?_))
      intro w1 H1 F1
      obtain ⟨L, hL⟩ : ∃ L, L = wA.heap.size := ⟨_, rfl⟩
      have HJ1 : Hid (JoinI w w1 A O ls Z acc) := Lib.hid (HJ.out.far (((Fr.refl wA wA.heap.size).alloc _).trans F1.out) (Nat.le_refl _))
      have HF1 : Hid (Fl w1 L l) := Lib.hid ⟨by rw [hL]; exact H1.out, words_len _, words_lt _, by have := HLn.out; omega⟩
      have HLO : Hid (O < L) := Lib.hid (by rw [hL]; exact HJ.out.row.lt_size)
      rw [← hL]
      have c0 := HJ1.out.row.size
      have cL := HF1.out.size
      obtain ⟨s, hse⟩ : ∃ s, s = acc.length := ⟨_, rfl⟩
      rw [← hse] at c0
      have hs4 : s ≤ 4096 := by have := HLn.out; omega
      have hl4 : l.length ≤ 4096 := by have := HLn.out; omega
      obtain ⟨k, hk⟩ : ∃ k, k = s / 64 := ⟨_, rfl⟩
      obtain ⟨r, hr⟩ : ∃ r, r = s % 64 := ⟨_, rfl⟩
      have ak : (s : Int) / 64 = (k : Int) := by omega
      have ar : (s : Int) % 64 = (r : Int) := by omega
      have hr64 : r < 64 := by omega
      have EP : Hid (acc.length = 64 * k + r) := Lib.hid (by omega)
      have ES : Hid (s = acc.length) := Lib.hid hse
      have wk : IntKind.i64.wrap (k : Int) = (k : Int) := by rw [IntKind.wrap_i64]; omega
      obtain ⟨m, hm⟩ : ∃ m, m = (l.length + 63) / 64 := ⟨_, rfl⟩
      have EM : Hid (m = (l.length + 63) / 64) := Lib.hid hm
      have HW := Lib.hid (fun W => wordsOf_any l.length hl4 W)
      rw [← hm] at HW
      have hm64 : m ≤ 64 := by omega
      have hs1 := slice_h L m hm64
      clear hL hse hk hr hm H1 F1 HG HS HJ
      go_wp2_with fail
      go_quiet (fail)
      go_wp2_with (first | (go_at_call 37; refine (HW.out _).mono ?_; rintro q w' ⟨rfl, rfl⟩))
      obtain ⟨wB, HJ2, HRB, hwB⟩ : ∃ wB : World, Hid (Fr w1 wB O) ∧ Hid (Raw wB O s (words (acc ++ l.take (64 * 0)))) ∧ wB = w1.drewN nq := ⟨_, Lib.hid ((Fr.refl w1 O).drewN nq), Lib.hid (by rw [Nat.mul_zero, List.take_zero, List.append_nil]; have := HJ1.out.row.drewN nq; rw [← ES.out] at this; exact this), rfl⟩
      rw [← hwB]
      clear hwB c0 cL hs1 wk ak ar
      go_loopw [29] (fun x wr => ∃ (i : Nat), x = .int .i64 i ∧ i ≤ m ∧ Hid (Raw wr O s (words (acc ++ l.take (64 * i)))) ∧ Hid (Fr w1 wr O)) (fun x _ => m - (intOf x).toNat)
      case atStart => exact ⟨0, rfl, Nat.zero_le _, HRB, HJ2⟩
      case round =>
        obtain ⟨i, rfl, hi, HR, HF⟩ := hrel
        clear HRB HJ2
        by_cases him : i < m
        · have hki : k + i < 64 := by have := EM.out; have := EP.out; have := HLn.out; omega
          have HFL : Hid (Fl wr L l) := Lib.hid (HF1.out.heap (HF.out.block L HF1.out.lt_size (by have := HLO.out; omega)))
          have cW := HFL.out.cell i (by omega)
          rw [words_get l i (by omega)] at cW
          obtain ⟨ki, hke⟩ : ∃ ki, ki = k + i := ⟨_, rfl⟩
          have aki : (k : Int) + (i : Int) = (ki : Int) := by omega
          have wki : IntKind.i64.wrap (ki : Int) = (ki : Int) := by rw [IntKind.wrap_i64]; omega
          have hki2 : ki < 64 := by omega
          have cO := HR.out.cell ki hki2
          rw [words_get _ ki hki2] at cO
          have hf := HR.out.frozen (1 + ki)
          have ix := index62 O ki hki2
          have EV : Hid (loW acc l k r i = word (acc ++ l.take (64 * i)) ki ||| (word l i * 2 ^ r % 18446744073709551616)) := Lib.hid (by rw [hke]; rfl)
          have HV := Lib.hid (loW_lt acc l k r i)
          obtain ⟨S, hS⟩ : ∃ S, S = word l i * 2 ^ r % 18446744073709551616 := ⟨_, rfl⟩
          have f1 : IntKind.u64.wrap ((word l i : Int) * 2 ^ r) = (S : Int) := by rw [hS, int_two_pow, IntKind.wrap_u64]; simp
          have f2 : IntKind.u64.wrap ((word l i : Int) * 2 ^ min r 64) = (S : Int) := by rw [Nat.min_eq_left (by omega)]; exact f1
          have hSl : S < 18446744073709551616 := by rw [hS]; exact Nat.mod_lt _ (by decide)
          have f3 := bits_or_u64_nat (word (acc ++ l.take (64 * i)) ki) S (word_lt _ _) hSl
          rw [← hS] at EV
          rw [← EV.out] at f3
          obtain ⟨u, hu⟩ : ∃ u, u = 64 - r := ⟨_, rfl⟩
          have au : (64 : Int) - (r : Int) = (u : Int) := by omega
          have wu : IntKind.i64.wrap (u : Int) = (u : Int) := by rw [IntKind.wrap_i64]; omega
          have hu64 : u ≤ 64 := by omega
          have g1 : (word l i : Int) / 2 ^ u = ((word l i / 2 ^ u : Nat) : Int) := int_div_pow _ _
          have g2 : (word l i : Int) / 2 ^ min u 64 = ((word l i / 2 ^ u : Nat) : Int) := by rw [Nat.min_eq_left hu64]; exact g1
          have HIS := Lib.hid (join_low acc l k r i EP.out hr64)
          have HIH := Lib.hid (join_high acc l k r i EP.out hr64)
          have HRM := Lib.hid (join_room acc l k r i EP.out hr64 HLn.out)
          have EH : Hid (hiW acc l k r i = word (acc ++ l.take (64 * i)) (ki + 1) ||| (word l i / 2 ^ u)) := Lib.hid (by rw [hke, hu]; rfl)
          have HHl := Lib.hid (hiW_lt acc l k r i)
          rw [← hke] at HIS HIH HRM
          rw [← hu] at HIS HRM
          have hHl := div_lt64 (word l i) u (word_lt l i)
          generalize word l i / 2 ^ u = H at *
          generalize word l i = W at *
          generalize loW acc l k r i = V at *
          clear hke hS hu HFL
          go_wp2_with fail
          refine wp_region_still_tail 12 (by kernel_rfl) (by kernel_rfl) ?_
          simp only [List.take_succ_cons, List.take_zero, List.drop_succ_cons, List.drop_zero]
          repeat still_step
          refine wpStill_nil ?_
          change wpList _ _ _ _ _ wr.drew
          go_wp2_with (refine wp_store61 rfl (.tmp 45) (.tmp 43) rfl O ki rfl V rfl s _ (HR.out.drewN 1) hki2 HV.out ?_)
          intro w2 H2 F2
          have HF2 : Hid (Fr w1 w2 O) := Lib.hid ((HF.out.drewN 1).trans F2.out)
          clear F2 cO cW hf
          by_cases hH : H = 0
          · have HN : Hid (Raw w2 O s (words (acc ++ l.take (64 * (i + 1))))) := Lib.hid (by have := H2.out; rw [HIS.out hH] at this; exact this)
            subst hH
            clear H2 HIS HIH HRM EH
            go_wp2_with fail
            go_roundw
            case rel => exact ⟨i + 1, by go_num, by omega, HN, HF2⟩
            case measure => simp [intOf]; omega
          · have hr1 := HRM.out hH
            have q1 : ((H : Int) == 0) = false := by simp; omega
            have q2 : ((H : Int) != 0) = true := by simp; omega
            obtain ⟨kj, hkj⟩ : ∃ kj, kj = ki + 1 := ⟨_, rfl⟩
            have akj : (ki : Int) + 1 = (kj : Int) := by omega
            have hkj2 : kj < 64 := by omega
            have c2 := H2.out.cell kj hkj2
            rw [getD_set, if_neg (by omega), words_get _ kj hkj2] at c2
            have f4 := bits_or_u64_nat (word (acc ++ l.take (64 * i)) kj) H (word_lt _ _) hHl
            rw [← hkj] at EH HIH
            rw [← EH.out] at f4
            have hf2 := H2.out.frozen (1 + kj)
            have HN : Hid (words (acc ++ l.take (64 * (i + 1))) = ((words (acc ++ l.take (64 * i))).set ki V).set kj (hiW acc l k r i)) := Lib.hid HIH.out.symm
            generalize hiW acc l k r i = V3 at *
            clear hkj HIS HIH HRM EH
            go_wp2_with (refine wp_store61 rfl (.tmp 62) (.tmp 60) rfl O kj rfl V3 rfl s _ H2.out hkj2 HHl.out ?_)
            intro w3 H3 F3
            have HN2 : Hid (Raw w3 O s (words (acc ++ l.take (64 * (i + 1))))) := Lib.hid (by rw [HN.out]; exact H3.out)
            have HF3 : Hid (Fr w1 w3 O) := Lib.hid (HF2.out.trans F3.out)
            go_wp2_with fail
            go_roundw
            case rel => exact ⟨i + 1, by go_num, by omega, HN2, HF3⟩
            case measure => simp [intOf]; omega
        · obtain rfl : i = m := by omega
          have HFL : Hid (Fl wr L l) := Lib.hid (HF1.out.heap (HF.out.block L HF1.out.lt_size (by have := HLO.out; omega)))
          have EW : Hid (words (acc ++ l.take (64 * i)) = words (acc ++ l)) := Lib.hid (by rw [List.take_of_length_le (by have := EM.out; omega)])
          have cs := HR.out.size
          have cl := HFL.out.size
          have fz := HR.out.frozen 0
          obtain ⟨s2, hs2⟩ : ∃ s2, s2 = s + l.length := ⟨_, rfl⟩
          have as2 : (s : Int) + (l.length : Int) = (s2 : Int) := by omega
          have hs24 : s2 ≤ 4096 := by have := HLn.out; have := ES.out; omega
          have HN : Hid (JoinI w (wr.setCell ⟨O, 0, none⟩ (.int .i64 (s2 : Int))) A O ls Z (acc ++ l)) := Lib.hid (by
            refine HJ1.out.step ?_ (HF.out.setCell rfl _)
            have := HR.out.setSize s2 hs24
            rw [EW.out] at this
            rw [show (acc ++ l).length = s2 by rw [List.length_append, hs2, ES.out]]
            exact this)
          have HA3 : Hid (acc ++ l = (ls.take (t + 1)).flatten) := HA2
          clear hs2 HR HF HFL EW HJ1 HF1
          go_wp2_with fail
          go_roundw
          case rel => exact ⟨t + 1, acc ++ l, by go_num, by omega, HA3, HN⟩
          case measure => simp [intOf]; omega
    · obtain rfl : t = N := by omega
      have EA : Hid (acc = ls.flatten) := Lib.hid (by rw [HAc.out, List.take_of_length_le (by have := EN.out; omega)])
      have HR := Lib.hid HJ.out.row
      go_wp2_with (first | (refine wp_load64 rfl (.tmp 3) rfl O rfl _ HJ.out.row.box (fcells_size _ (words_len _)) ?_) | (refine wp_store64 rfl (.tmp 2) (.tmp 71) rfl w.heap.size rfl _ rfl acc.length (words acc) rfl (words_len _) Z HJ.out.res hZs.out ?_))
      intro w4 H4 F4
      go_wp2_with fail
      refine bodyPost_ret (res64 rfl _ _ w.heap.size _ rfl H4.out (fcells_size _ (words_len _))) rfl ?_
      refine ⟨?_, ?_⟩
      · rw [← EA.out]; rfl
      · exact HJ.out.below.trans (F4.out.below (Nat.le_refl _) (by have := HJ.out.size; omega))
end Go.Proofs.YtbdjpacmbaoaeaaDoor
