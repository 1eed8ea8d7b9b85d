/- The walk of the law RopesSplit. -/
import Derived.Test.YtfkjnepafgehiaaRp
namespace Go.Proofs.Ytfkjnepafgehiaa
open Go.RowKit

structure L3 (w W : World) (ga gb : Nat) (ta tb : T) (pa pb A B : Option Addr) (c d : Nat) (l m : List Int) : Prop where
  ra : Rp W ga l ta pa
  rb : Rp W gb m tb pb
  sa : SlI W A c l
  sb : SlI W B d m
  u : Below w.heap.size w W
theorem L3.next {w W W' : World} {ga gb : Nat} {ta tb : T} {pa pb A B : Option Addr} {c d : Nat} {l m : List Int} (h : L3 w W ga gb ta tb pa pb A B c d l m) (kk : Below W.heap.size W W') : L3 w W' ga gb ta tb pa pb A B c d l m :=
  ⟨h.ra.next kk, h.rb.next kk, h.sa.below kk, h.sb.below kk, h.u.trans (kk.mono h.u.size)⟩
/-- behind R's Of, twice -/
def TwoL (w : World) (l m : List Int) (s7 s8 : Value) (wx : World) : Prop := ∃ A c B d, s7 = .slice A l.length c ∧ s8 = .slice B m.length d ∧ SlI wx A c l ∧ SlI wx B d m ∧ Below w.heap.size w wx
theorem keepB {w W W1 : World} {x0 x1 y0 y1 : Value} (h : W.cell? ⟨w.heap.size, 0, none⟩ = some x0 ∧ W.cell? ⟨w.heap.size, 1, none⟩ = some x1 ∧ W.cell? ⟨w.heap.size + 1, 0, none⟩ = some y0 ∧ W.cell? ⟨w.heap.size + 1, 1, none⟩ = some y1 ∧ Below w.heap.size w W ∧ w.heap.size + 2 ≤ W.heap.size) (k : Below W.heap.size W W1) :
    W1.cell? ⟨w.heap.size, 0, none⟩ = some x0 ∧ W1.cell? ⟨w.heap.size, 1, none⟩ = some x1 ∧ W1.cell? ⟨w.heap.size + 1, 0, none⟩ = some y0 ∧ W1.cell? ⟨w.heap.size + 1, 1, none⟩ = some y1 ∧ Below w.heap.size w W1 ∧ w.heap.size + 2 ≤ W1.heap.size := by
  obtain ⟨h1, h2, h3, h4, h5, h6⟩ := h
  exact ⟨(k.cell (p := ⟨w.heap.size, 0, none⟩) (by show w.heap.size < _; omega)).trans h1, (k.cell (p := ⟨w.heap.size, 1, none⟩) (by show w.heap.size < _; omega)).trans h2, (k.cell (p := ⟨w.heap.size + 1, 0, none⟩) (by show w.heap.size + 1 < _; omega)).trans h3, (k.cell (p := ⟨w.heap.size + 1, 1, none⟩) (by show w.heap.size + 1 < _; omega)).trans h4,
    h5.trans (k.mono (by omega)), Nat.le_trans h6 k.size⟩
theorem bx0 (w : World) (x0 x1 y0 y1 : Value) (t : TypeId) : (((w.alloc (.cells #[x0, x1] t)).alloc (.cells #[y0, y1] t)).drew.cell? ⟨w.heap.size, 0, none⟩ = some x0 ∧ ((w.alloc (.cells #[x0, x1] t)).alloc (.cells #[y0, y1] t)).drew.cell? ⟨w.heap.size, 1, none⟩ = some x1 ∧ ((w.alloc (.cells #[x0, x1] t)).alloc (.cells #[y0, y1] t)).drew.cell? ⟨w.heap.size + 1, 0, none⟩ = some y0 ∧ ((w.alloc (.cells #[x0, x1] t)).alloc (.cells #[y0, y1] t)).drew.cell? ⟨w.heap.size + 1, 1, none⟩ = some y1 ∧
    Below w.heap.size w ((w.alloc (.cells #[x0, x1] t)).alloc (.cells #[y0, y1] t)).drew ∧ w.heap.size + 2 ≤ ((w.alloc (.cells #[x0, x1] t)).alloc (.cells #[y0, y1] t)).drew.heap.size) := by
  obtain ⟨h1, h2⟩ := two_heap w (.cells #[x0, x1] t) (.cells #[y0, y1] t)
  refine ⟨cell_of_row _ w.heap.size 0 _ t (0, 0) h1, cell_of_row _ w.heap.size 1 _ t (0, 0) h1, cell_of_row _ (w.heap.size + 1) 0 _ t (0, 0) h2, cell_of_row _ (w.heap.size + 1) 1 _ t (0, 0) h2, (below_two w _ _).drew, ?_⟩
  show w.heap.size + 2 ≤ ((w.alloc (.cells #[x0, x1] t)).alloc (.cells #[y0, y1] t)).heap.size
  simp

structure S5 (w W : World) (gl gr gj : Nat) (a b j : T) (pl pr pj : Option Addr) (la lb l : List Int) (M : Prop) : Prop where
  ra : Rp W gl la a pl
  rb : Rp W gr lb b pr
  rj : Rp W gj l j pj
  m : M
set_option maxRecDepth 100000 in
set_option maxHeartbeats 8000000 in
theorem law3_any (hL : LivesOk) (A0 B0 : Option Addr) (c0 d0 : Nat) (us vs : List Nat) (g0 g1 : Bool) (i : Int) (w : World) (hr : RdU w w.heap.size A0 us) (hr2 : RdU w w.heap.size B0 vs) (hlc : us.length ≤ c0) (hld : vs.length ≤ d0) (hm : c0 ≤ 9223372036854775807) (hm2 : d0 ≤ 9223372036854775807) (hi : i ≤ 9223372036854775807) :
    Calls Try.prog 5 #[.agg #[.slice A0 us.length c0, .bool g0], .agg #[.slice B0 vs.length d0, .bool g1], .int .i64 i] w fun e w' => e = .returned (.bool true) ∧ Below w.heap.size w w' := by
  have HL := Lib.hid hL; clear hL
  have hv := xof_vd us g0
  have hv2 := xof_vd vs g1
  have hS1 : ∀ W, Below w.heap.size w W → Calls Try.prog 13 #[.agg #[.slice A0 us.length c0, .bool g0]] W (RofN W (xof us g0)) := fun W hb => rOfN_loop A0 c0 us g0 W (by
    intro k hk
    obtain ⟨b, o, e, h1, h2, h3⟩ := hr.below hb k hk
    exact ⟨b, o, e, Nat.lt_of_lt_of_le h1 hb.size, h2, h3⟩) hlc hm
  have hS2 : ∀ W, Below w.heap.size w W → Calls Try.prog 13 #[.agg #[.slice B0 vs.length d0, .bool g1]] W (RofN W (xof vs g1)) := fun W hb => rOfN_loop B0 d0 vs g1 W (by
    intro k hk
    obtain ⟨b, o, e, h1, h2, h3⟩ := hr2.below hb k hk
    exact ⟨b, o, e, Nat.lt_of_lt_of_le h1 hb.size, h2, h3⟩) hld hm2
  generalize xof us g0 = l at *
  generalize xof vs g1 = m at *
  have S1 := Lib.hid hS1
  have S2 := Lib.hid hS2
  have HV := Lib.hid hv
  have HV2 := Lib.hid hv2
  have hln := hv.len
  have hlm := hv2.len
  have hbx := Lib.hid (bx0 w (.slice A0 us.length c0) (.bool g0) (.slice B0 vs.length d0) (.bool g1) 35)
  clear hr hr2 hS1 hS2 hv hv2
  go_enter Try.func5, Try.ntmps5
  go_upto_region 1 with fail
  go_cut [7, 8] (fun s7 s8 wx => TwoL w l m s7 s8 wx)
  case first =>
    go_region_held3 (fun w' => w'.cell? ⟨w.heap.size, 0, none⟩ = some (.slice A0 us.length c0) ∧ w'.cell? ⟨w.heap.size, 1, none⟩ = some (.bool g0) ∧ w'.cell? ⟨w.heap.size + 1, 0, none⟩ = some (.slice B0 vs.length d0) ∧ w'.cell? ⟨w.heap.size + 1, 1, none⟩ = some (.bool g1) ∧ Below w.heap.size w w' ∧ w.heap.size + 2 ≤ w'.heap.size)
      (first
        | with_reducible exact hbx.out
        | with_reducible exact keepB (by assumption) k2
        | with_reducible exact keepB (by assumption) k1)
      (first
        | (go_at_call_of 13 (Value.agg #[Value.slice A0 us.length c0, Value.bool g0]); refine (S1.out _ ?_).mono ?_; (exact (‹_ ∧ _ ∧ _ ∧ _ ∧ Below w.heap.size w _ ∧ _›).2.2.2.2.1); rintro e w1 ⟨A1, c1, rfl, hl1, hm1, hr1, k1, hn1⟩)
        | (go_at_call_of 13 (Value.agg #[Value.slice B0 vs.length d0, Value.bool g1]); refine (S2.out _ ?_).mono ?_; (exact (‹_ ∧ _ ∧ _ ∧ _ ∧ Below w.heap.size w _ ∧ _›).2.2.2.2.1); rintro e w2 ⟨B1, d1, rfl, hl2, hm2, hr2, k2, hn2⟩))
    all_goals (go_wp2_with fail; go_meet; exact ⟨A1, c1, B1, d1, rfl, rfl, ⟨hr1.next k2, hl1, hm1, hn1⟩, ⟨hr2, hl2, hm2, hn2⟩, (‹_ ∧ _ ∧ _ ∧ _ ∧ Below w.heap.size w w2 ∧ _›).2.2.2.2.1⟩)
  case rest =>
    obtain ⟨A, c, B, d, rfl, rfl, sa, sb, u⟩ := hcut
    clear hbx S1 S2 hlc hld hm hm2
    have hlc := sa.le
    have hld := sb.le
    have hcm := sa.max
    have hdm := sb.max
    have SA := Lib.hid sa
    have SB := Lib.hid sb
    have U := Lib.hid u
    have HO1 := Lib.hid (of_ok A c l wc sa.rd HV.out sa.le sa.max)
    clear sa sb u
    go_wp2_with fail
    refine HO1.out.mono ?_
    rintro e w2 ⟨ta, pa, hta, rfl, hna, kk⟩
    have bn := below_new w2 (.cells #[.int .i64 ta.count, .int .i64 ta.total, .int .i64 ta.depth, .pointer pa] 27)
    have RA := Lib.hid (rp_new hna hta.ls)
    have SA2 := Lib.hid ((SA.out.below kk).below bn)
    have SB2 := Lib.hid ((SB.out.below kk).below bn)
    have U2 := Lib.hid ((U.out.trans (kk.mono U.out.size)).trans (bn.mono (U.out.trans (kk.mono U.out.size)).size))
    clear kk bn hta hna HO1 SA SB U
    go_upto_region 3 with fail
    obtain ⟨W2, hW2⟩ : ∃ W, w2.alloc (.cells #[.int .i64 ta.count, .int .i64 ta.total, .int .i64 ta.depth, .pointer pa] 27) = W := ⟨_, rfl⟩
    obtain ⟨ga, hga⟩ : ∃ g, w2.heap.size = g := ⟨_, rfl⟩
    rw [hW2] at RA SA2 SB2 U2 ⊢
    rw [hga] at RA ⊢
    clear hW2 hga
    have HO2 := Lib.hid (of_ok B d m W2 SB2.out.rd HV2.out SB2.out.le SB2.out.max)
    go_wp2_with fail
    refine HO2.out.mono ?_
    rintro e w3 ⟨tb, pb, htb, rfl, hnb, kk⟩
    have bn := below_new w3 (.cells #[.int .i64 tb.count, .int .i64 tb.total, .int .i64 tb.depth, .pointer pb] 27)
    have M3 := Lib.hid (show L3 w _ ga w3.heap.size ta tb pa pb A B c d l m from ⟨(RA.out.next kk).next bn, rp_new hnb htb.ls, (SA2.out.below kk).below bn, (SB2.out.below kk).below bn, (U2.out.trans (kk.mono U2.out.size)).trans (bn.mono (U2.out.trans (kk.mono U2.out.size)).size)⟩)
    clear kk bn htb hnb HO2 SA2 SB2 U2 RA
    go_upto_region 4 with fail
    obtain ⟨W3, hW3⟩ : ∃ W, w3.alloc (.cells #[.int .i64 tb.count, .int .i64 tb.total, .int .i64 tb.depth, .pointer pb] 27) = W := ⟨_, rfl⟩
    obtain ⟨gb, hgb⟩ : ∃ g, w3.heap.size = g := ⟨_, rfl⟩
    rw [hW3] at M3 ⊢
    rw [hgb] at M3 ⊢
    clear hW3 hgb
    obtain ⟨f, la, lb, hcase, hSp⟩ := splitP_any i M3.out.ra.nd M3.out.ra.ls HV.out hi
    have HC := Lib.hid hcase
    have HSp := Lib.hid hSp
    clear hcase hSp
    obtain ⟨x0, x1, x2, x3⟩ := M3.out.ra.cells
    go_wp2_with fail
    refine HSp.out.mono ?_
    rintro e w5 ⟨a, pl, b, pr, ⟨sla, slb⟩, rfl, hna, hnb, kk⟩
    obtain ⟨ra, rb⟩ := rp_two hna hnb sla slb
    have RA := Lib.hid ra
    have RB := Lib.hid rb
    have M5 := Lib.hid ((M3.out.next kk).next (below_two w5 (.cells #[.int .i64 a.count, .int .i64 a.total, .int .i64 a.depth, .pointer pl] 27) (.cells #[.int .i64 b.count, .int .i64 b.total, .int .i64 b.depth, .pointer pr] 27)))
    clear kk sla slb hna hnb ra rb x0 x1 x2 x3 M3 HSp
    go_upto_region 7 with fail
    obtain ⟨W5, hW5⟩ : ∃ W, (w5.alloc (.cells #[.int .i64 a.count, .int .i64 a.total, .int .i64 a.depth, .pointer pl] 27)).alloc (.cells #[.int .i64 b.count, .int .i64 b.total, .int .i64 b.depth, .pointer pr] 27) = W := ⟨_, rfl⟩
    obtain ⟨gr, hgr⟩ : ∃ g, w5.heap.size + 1 = g := ⟨_, rfl⟩
    obtain ⟨gl, hgl⟩ : ∃ g, w5.heap.size = g := ⟨_, rfl⟩
    rw [hW5] at RA RB M5 ⊢
    rw [hgr] at RB ⊢
    rw [hgl] at RA ⊢
    clear hW5 hgr hgl
    go_cut [61] (fun s wx => s = .bool (decide (i < 0 ∨ (l.length : Int) < i)) ∧ wx = W5)
    case first =>
      by_cases h1 : i < 0
      · have HQ := Lib.hid (show decide (i < 0 ∨ (l.length : Int) < i) = true from decide_eq_true (Or.inl h1))
        go_wp2_with fail
        go_meet
        exact ⟨by rw [HQ.out], rfl⟩
      · have e2 : decide (i < 0) = false := decide_eq_false h1
        by_cases h2 : (l.length : Int) < i
        · have HQ := Lib.hid (show decide (i < 0 ∨ (l.length : Int) < i) = true from decide_eq_true (Or.inr h2))
          go_wp2_with fail
          go_meet
          exact ⟨by rw [HQ.out], rfl⟩
        · have HQ := Lib.hid (show decide (i < 0 ∨ (l.length : Int) < i) = false from decide_eq_false (fun h => h.elim h1 h2))
          have e3 : decide ((l.length : Int) < i) = false := decide_eq_false h2
          go_wp2_with fail
          go_meet
          exact ⟨by rw [HQ.out], rfl⟩
    case rest =>
    obtain ⟨rfl, rfl⟩ := hcut
    go_upto_if 61 with fail
    go_cut [6] (fun _ wx => Hid (L3 w wx ga gb ta tb pa pb A B c d l m))
    case first =>
      rcases HC.out with ⟨rfl, hbad, rfl, rfl⟩ | ⟨rfl, k, rfl, hk, rfl, rfl⟩
      · have e1 : decide (i < 0 ∨ (l.length : Int) < i) = true := decide_eq_true hbad
        rw [e1]
        clear hbad e1
        obtain ⟨x0, x1, x2, x3⟩ := RA.out.cells
        go_wp2_with fail
        refine (RA.out.same vd_nil RdI.nil rfl).mono ?_
        rintro e w6 ⟨rfl, kk⟩
        have RB6 := Lib.hid (RB.out.next kk)
        have M6 := Lib.hid (M5.out.next kk)
        clear kk M5 RB RA x0 x1 x2 x3
        obtain ⟨x0, x1, x2, x3⟩ := RB6.out.cells
        go_wp2_with fail
        refine (RB6.out.same vd_nil RdI.nil rfl).mono ?_
        rintro e w7 ⟨rfl, kk⟩
        have M7 := Lib.hid (M6.out.next kk)
        clear kk M6 RB6 x0 x1 x2 x3
        go_wp2_with fail
        go_meet
        exact M7
      · have HJ := join_ls RA.out.nd RB.out.nd RA.out.ls RB.out.ls (HV.out.take k) (HV.out.drop k)
        rw [joinR_parts HV.out] at HJ
        have hkc : (k : Int) ≤ (c : Int) := by omega
        have e0 : decide ((k : Int) < 0 ∨ (l.length : Int) < (k : Int)) = false := decide_eq_false (by omega)
        rw [e0]
        have HJ := Lib.hid HJ
        clear e0
        obtain ⟨x0, x1, x2, x3⟩ := RA.out.cells
        obtain ⟨y0, y1, y2, y3⟩ := RB.out.cells
        go_wp2_with fail
        refine HJ.out.mono ?_
        rintro e w6 ⟨tj, pj, hj, rfl, hnj, kk⟩
        have RJ := Lib.hid (rp_new hnj hj)
        have bn := below_new w6 (.cells #[.int .i64 tj.count, .int .i64 tj.total, .int .i64 tj.depth, .pointer pj] 27)
        have RA6 := Lib.hid ((RA.out.next kk).next bn)
        have RB6 := Lib.hid ((RB.out.next kk).next bn)
        have M6 := Lib.hid ((M5.out.next kk).next bn)
        clear kk bn hj hnj HJ RA RB M5 x0 x1 x2 x3 y0 y1 y2 y3
        go_upto_region 11 with fail
        obtain ⟨W6, hW6⟩ : ∃ W, w6.alloc (.cells #[.int .i64 tj.count, .int .i64 tj.total, .int .i64 tj.depth, .pointer pj] 27) = W := ⟨_, rfl⟩
        obtain ⟨gj, hgj⟩ : ∃ g, w6.heap.size = g := ⟨_, rfl⟩
        rw [hW6] at RJ RA6 RB6 M6 ⊢
        rw [hgj] at RJ ⊢
        clear hW6 hgj
        obtain ⟨P, hP⟩ : ∃ P : World → Prop, (fun W => S5 w W gl gr gj a b tj pl pr pj (l.take k) (l.drop k) l (L3 w W ga gb ta tb pa pb A B c d l m)) = P := ⟨_, rfl⟩
        have hP0 : P W6 := by rw [← hP]; exact ⟨RA6.out, RB6.out, RJ.out, M6.out⟩
        have SA := Lib.hid (show ∀ W, P W → Calls Try.prog 12 #[.agg #[.int .i64 a.count, .int .i64 a.total, .int .i64 a.depth, .pointer pl], .int .i64 0, .slice A k c, .int .i64 0] W fun e w' => e = .returned (.bool true) ∧ Below W.heap.size W w' from fun W h => by
          rw [← hP] at h
          exact h.ra.same (HV.out.take k) (h.m.sa.rd.part k) (by rw [List.length_take]; omega))
        have SBx : ∀ A2, (if c = k then A else A.map fun x => x.add k) = A2 → ∀ W, P W → Calls Try.prog 12 #[.agg #[.int .i64 b.count, .int .i64 b.total, .int .i64 b.depth, .pointer pr], .int .i64 0, .slice A2 (l.length - k) (c - k), .int .i64 0] W fun e w' => e = .returned (.bool true) ∧ Below W.heap.size W w' := fun A2 hA2 W h => by
          rw [← hP] at h
          rw [← hA2]
          exact h.rb.same (HV.out.drop k) (h.m.sa.rd.cut h.m.sa.le k) (by rw [List.length_drop])
        have SJ := Lib.hid (show ∀ W, P W → Calls Try.prog 12 #[.agg #[.int .i64 tj.count, .int .i64 tj.total, .int .i64 tj.depth, .pointer pj], .int .i64 0, .slice A l.length c, .int .i64 0] W fun e w' => e = .returned (.bool true) ∧ Below W.heap.size W w' from fun W h => by
          rw [← hP] at h
          exact h.rj.same HV.out h.m.sa.rd rfl)
        have PC := Lib.hid (show ∀ W, P W → (P W ∧ (W.cell? ⟨gl, 0, none⟩ = some (.int .i64 a.count) ∧ W.cell? ⟨gl, 1, none⟩ = some (.int .i64 a.total) ∧ W.cell? ⟨gl, 2, none⟩ = some (.int .i64 a.depth) ∧ W.cell? ⟨gl, 3, none⟩ = some (.pointer pl)) ∧ (W.cell? ⟨gr, 0, none⟩ = some (.int .i64 b.count) ∧ W.cell? ⟨gr, 1, none⟩ = some (.int .i64 b.total) ∧ W.cell? ⟨gr, 2, none⟩ = some (.int .i64 b.depth) ∧ W.cell? ⟨gr, 3, none⟩ = some (.pointer pr)) ∧ (W.cell? ⟨gj, 0, none⟩ = some (.int .i64 tj.count) ∧ W.cell? ⟨gj, 1, none⟩ = some (.int .i64 tj.total) ∧ W.cell? ⟨gj, 2, none⟩ = some (.int .i64 tj.depth) ∧ W.cell? ⟨gj, 3, none⟩ = some (.pointer pj))) from fun W h => by
          have h' := h
          rw [← hP] at h'
          exact ⟨h, h'.ra.cells, h'.rb.cells, h'.rj.cells⟩)
        have PN := Lib.hid (show ∀ W W', P W → Below W.heap.size W W' → P W' from fun W W' h kk => by
          rw [← hP] at h ⊢
          exact ⟨h.ra.next kk, h.rb.next kk, h.rj.next kk, h.m.next kk⟩)
        have PM := Lib.hid (show ∀ W, P W → L3 w W ga gb ta tb pa pb A B c d l m from fun W h => by
          rw [← hP] at h
          exact h.m)
        have HP0 := Lib.hid (PN.out _ _ hP0 (show Below W6.heap.size W6 W6.drew from ⟨rfl, rfl, rfl, Nat.le_refl _, fun _ _ => rfl⟩))
        have SB := Lib.hid (SBx _ rfl)
        have SB2 : Hid (¬ c = k → ∀ W, P W → Calls Try.prog 12 #[.agg #[.int .i64 b.count, .int .i64 b.total, .int .i64 b.depth, .pointer pr], .int .i64 0, .slice (A.map fun x => x.add k) (l.length - k) (c - k), .int .i64 0] W fun e w' => e = .returned (.bool true) ∧ Below W.heap.size W w') := Lib.hid (fun h => SBx _ (if_neg h))
        have SB3 : Hid (c = k → ∀ W, P W → Calls Try.prog 12 #[.agg #[.int .i64 b.count, .int .i64 b.total, .int .i64 b.depth, .pointer pr], .int .i64 0, .slice A 0 0, .int .i64 0] W fun e w' => e = .returned (.bool true) ∧ Below W.heap.size W w') := Lib.hid (fun h => by
          have h2 := SBx _ (if_pos h)
          rw [show l.length - k = 0 by omega, show c - k = 0 by omega] at h2
          exact h2)
        clear hP hP0 RA6 RB6 RJ M6 SBx
        rcases Decidable.em (c = k) with rfl | hck
        all_goals go_region_held3 (fun W => P W ∧ (W.cell? ⟨gl, 0, none⟩ = some (.int .i64 a.count) ∧ W.cell? ⟨gl, 1, none⟩ = some (.int .i64 a.total) ∧ W.cell? ⟨gl, 2, none⟩ = some (.int .i64 a.depth) ∧ W.cell? ⟨gl, 3, none⟩ = some (.pointer pl)) ∧ (W.cell? ⟨gr, 0, none⟩ = some (.int .i64 b.count) ∧ W.cell? ⟨gr, 1, none⟩ = some (.int .i64 b.total) ∧ W.cell? ⟨gr, 2, none⟩ = some (.int .i64 b.depth) ∧ W.cell? ⟨gr, 3, none⟩ = some (.pointer pr)) ∧ (W.cell? ⟨gj, 0, none⟩ = some (.int .i64 tj.count) ∧ W.cell? ⟨gj, 1, none⟩ = some (.int .i64 tj.total) ∧ W.cell? ⟨gj, 2, none⟩ = some (.int .i64 tj.depth) ∧ W.cell? ⟨gj, 3, none⟩ = some (.pointer pj)))
          (first
            | with_reducible exact PC.out _ HP0.out
            | with_reducible exact PC.out _ hp1.out
            | with_reducible exact PC.out _ hp2.out
            | with_reducible exact PC.out _ hp3.out)
          (first
            | (go_at_call_of 12 (Value.agg #[Value.int IntKind.i64 a.count, Value.int IntKind.i64 a.total, Value.int IntKind.i64 a.depth, Value.pointer pl]); refine (SA.out _ HP0.out).mono ?_; rintro e w7 ⟨rfl, k1⟩; have hp1 := Lib.hid (PN.out _ _ HP0.out k1))
            | (go_at_call_of 12 (Value.agg #[Value.int IntKind.i64 b.count, Value.int IntKind.i64 b.total, Value.int IntKind.i64 b.depth, Value.pointer pr]); (first | with_reducible refine (SB.out _ hp1.out).mono ?_ | with_reducible refine (SB2.out (by first | assumption | trivial) _ hp1.out).mono ?_ | with_reducible refine (SB3.out (by first | rfl | trivial) _ hp1.out).mono ?_ | (trace_state; fail)); rintro e w8 ⟨rfl, k2⟩; have hp2 := Lib.hid (PN.out _ _ hp1.out k2))
            | (go_at_call_of 12 (Value.agg #[Value.int IntKind.i64 tj.count, Value.int IntKind.i64 tj.total, Value.int IntKind.i64 tj.depth, Value.pointer pj]); refine (SJ.out _ hp2.out).mono ?_; rintro e w9 ⟨rfl, k3⟩; have hp3 := Lib.hid (PN.out _ _ hp2.out k3)))
        all_goals (go_wp2_with fail; go_meet; exact Lib.hid (PM.out _ hp3.out))
    case rest =>
    have M7 := hcut
    clear hcut M5 RA RB HC
    obtain ⟨J, hJ⟩ : ∃ J, (joinR l m).1 = J := ⟨_, rfl⟩
    obtain ⟨F, hF⟩ : ∃ F, (joinR l m).2 = F := ⟨_, rfl⟩
    have hVJ := joinR_vd HV.out HV2.out
    have hJF : F = 0 → J = l ++ m := fun h => by
      rw [← hF, joinR_err] at h
      rw [← hJ]; unfold joinR; rw [if_pos h]
    have HJn := refJoin_any M7.out.sa M7.out.sb HV.out HV2.out
    unfold RowE at HJn
    rw [hJ, hF] at HJn
    rw [hJ] at hVJ
    have HJn := Lib.hid HJn
    have HVJ := Lib.hid hVJ
    have HJF := Lib.hid hJF
    have HJ := Lib.hid hJ
    have HF := Lib.hid hF
    have hJl := hVJ.len
    clear hVJ hJF hJ hF
    go_wp2_with fail
    refine HJn.out.mono ?_
    rintro e w8 ⟨Aw, cw, rfl, sw, kk⟩
    have SW := Lib.hid sw
    have M8 := Lib.hid (M7.out.next kk)
    clear sw kk M7 HJn
    have hj := join_ls M8.out.ra.nd M8.out.rb.nd M8.out.ra.ls M8.out.rb.ls HV.out HV2.out
    rw [HJ.out, HF.out] at hj
    have HJo := Lib.hid hj
    clear hj
    obtain ⟨x0, x1, x2, x3⟩ := M8.out.ra.cells
    obtain ⟨y0, y1, y2, y3⟩ := M8.out.rb.cells
    go_wp2_with fail
    refine HJo.out.mono ?_
    rintro e w9 ⟨tj, pj, hj, rfl, hnj, kk⟩
    have RJ := Lib.hid (rp_new hnj hj)
    have bn := below_new w9 (.cells #[.int .i64 tj.count, .int .i64 tj.total, .int .i64 tj.depth, .pointer pj] 27)
    have M9 := Lib.hid ((M8.out.next kk).next bn)
    have SW9 := Lib.hid ((SW.out.below kk).below bn)
    clear kk bn hj hnj HJo SW M8 x0 x1 x2 x3 y0 y1 y2 y3
    go_upto_region 15 with fail
    obtain ⟨W9, hW9⟩ : ∃ W, w9.alloc (.cells #[.int .i64 tj.count, .int .i64 tj.total, .int .i64 tj.depth, .pointer pj] 27) = W := ⟨_, rfl⟩
    obtain ⟨gj, hgj⟩ : ∃ g, w9.heap.size = g := ⟨_, rfl⟩
    rw [hW9] at RJ M9 SW9 ⊢
    rw [hgj] at RJ ⊢
    clear hW9 hgj
    obtain ⟨x0, x1, x2, x3⟩ := RJ.out.cells
    go_wp2_with fail
    refine (RJ.out.same HVJ.out SW9.out.rd rfl).mono ?_
    rintro e w10 ⟨rfl, kk⟩
    have M10 := Lib.hid (M9.out.next kk)
    have RJ10 := Lib.hid (RJ.out.next kk)
    clear kk M9 RJ SW9 x0 x1 x2 x3
    obtain ⟨x0, x1, x2, x3⟩ := M10.out.ra.cells
    go_wp2_with fail
    refine (M10.out.ra.same HV.out M10.out.sa.rd rfl).mono ?_
    rintro e w11 ⟨rfl, kk⟩
    have M11 := Lib.hid (M10.out.next kk)
    have RJ11 := Lib.hid (RJ10.out.next kk)
    clear kk M10 RJ10 x0 x1 x2 x3
    obtain ⟨x0, x1, x2, x3⟩ := M11.out.rb.cells
    go_wp2_with fail
    refine (M11.out.rb.same HV2.out M11.out.sb.rd rfl).mono ?_
    rintro e w12 ⟨rfl, kk⟩
    have M12 := Lib.hid (M11.out.next kk)
    have RJ12 := Lib.hid (RJ11.out.next kk)
    clear kk M11 RJ11 x0 x1 x2 x3
    go_wp2_with fail
    by_cases hF0 : F = 0
    · have HJ2 := Lib.hid (HJF.out hF0)
      subst hF0
      go_loopw [22] (fun k wr => ∃ j : Nat, j ≤ m.length ∧ k = .int .i64 j ∧ Hid (L3 w wr ga gb ta tb pa pb A B c d l m) ∧ Hid (Rp wr gj J tj pj)) (fun k _ => m.length - (intOf k).toNat)
      case atStart => exact ⟨0, Nat.zero_le _, rfl, M12, RJ12⟩
      case round =>
        obtain ⟨j, hj, rfl, MJ, RJj⟩ := hrel
        by_cases hlt : j < m.length
        · have hs1 := sumR_ok (i := l.length + j) RJj.out.nd (ls_ok RJj.out.ls HVJ.out) (by rw [ls_count RJj.out.ls, HJ2.out, List.length_append]; omega)
          rw [RJj.out.ls.list] at hs1
          have hy := HVJ.out.hi (l.length + j)
          have hy0 := pre_nn HV2.out.ok.nn j
          have hl0 := pre_nn HV.out.ok.nn l.length
          rw [pre_all, ← ls_total MJ.out.ra.ls] at hl0
          have hx : pre J (l.length + j) = ta.total + pre m j := by rw [HJ2.out, pre_app, ls_total MJ.out.ra.ls]
          rw [hx] at hs1 hy
          rw [Int.natCast_add] at hs1
          have HS1 := Lib.hid hs1
          clear hs1 hx
          obtain ⟨x0, x1, x2, x3⟩ := RJj.out.cells
          go_wp2_with fail
          refine HS1.out.mono ?_
          rintro e w13 ⟨rfl, kk⟩
          have N1 := Lib.hid (MJ.out.next kk)
          have R1 := Lib.hid (RJj.out.next kk)
          clear kk HS1 MJ RJj x0 x1 x2 x3
          have hs2 := sumR_ok (i := j) N1.out.rb.nd (ls_ok N1.out.rb.ls HV2.out) (by rw [ls_count N1.out.rb.ls]; exact hj)
          rw [N1.out.rb.ls.list] at hs2
          have HS2 := Lib.hid hs2
          clear hs2
          obtain ⟨x0, x1, x2, x3⟩ := N1.out.rb.cells
          go_wp2_with fail
          refine HS2.out.mono ?_
          rintro e w14 ⟨rfl, kk⟩
          have N2 := Lib.hid (N1.out.next kk)
          have R2 := Lib.hid (R1.out.next kk)
          clear kk HS2 N1 R1 x0 x1 x2 x3
          obtain ⟨x0, x1, x2, x3⟩ := N2.out.ra.cells
          generalize pre m j = y at *
          go_wp2_with fail
          refine (total_below _ _ _ _ _).mono ?_
          rintro e w15 ⟨rfl, kk⟩
          have N3 := Lib.hid (N2.out.next kk)
          have R3 := Lib.hid (R2.out.next kk)
          clear kk N2 R2 x0 x1 x2 x3
          go_wp2_with fail
          go_roundw
          case rel => exact ⟨j + 1, by omega, by go_num, N3, R3⟩
          case measure => simp [intOf]; omega
        · go_wp2_with fail
          refine (HL.out _).mono ?_
          rintro e w13 ⟨rfl, kk⟩
          have HBz := Lib.hid (MJ.out.u.trans (kk.mono MJ.out.u.size))
          clear kk
          go_wp2_with fail
          go_ret
          exact ⟨rfl, HBz.out⟩
    · have e1 : (F == 0) = false := by simpa using hF0
      clear hF0
      go_loopw [22] (fun k wr => k = .int .i64 0 ∧ Hid (L3 w wr ga gb ta tb pa pb A B c d l m)) (fun _ _ => 0)
      case atStart => exact ⟨rfl, M12⟩
      case round =>
        obtain ⟨rfl, MJ⟩ := hrel
        have HU := Lib.hid MJ.out.u
        clear MJ
        rcases Nat.eq_zero_or_pos m.length with hz | hz
        · have e2 : decide (0 < m.length) = false := decide_eq_false (by omega)
          have e3 : m.length ≤ 0 := by omega
          clear hz
          go_wp2_with fail
          refine (HL.out _).mono ?_
          rintro e w13 ⟨rfl, kk⟩
          have HBz := Lib.hid (HU.out.trans (kk.mono HU.out.size))
          clear kk
          go_wp2_with fail
          go_ret
          exact ⟨rfl, HBz.out⟩
        · have e2 : decide (0 < m.length) = true := decide_eq_true (by omega)
          go_wp2_with fail
          refine (HL.out _).mono ?_
          rintro e w13 ⟨rfl, kk⟩
          have HBz := Lib.hid (HU.out.trans (kk.mono HU.out.size))
          clear kk
          go_wp2_with fail
          go_ret
          exact ⟨rfl, HBz.out⟩
end Go.Proofs.Ytfkjnepafgehiaa
