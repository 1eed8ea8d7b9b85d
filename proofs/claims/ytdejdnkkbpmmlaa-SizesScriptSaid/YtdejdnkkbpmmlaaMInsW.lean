/- The walks of Insert and Set. -/
import Derived.Test.YtdejdnkkbpmmlaaMEditW
namespace Go.Proofs.Ytdejdnkkbpmmlaa
open Go.RowKit

/-- what Insert makes -/
def insR (l : List Int) (i : Int) (s : List Int) : List Int × Int :=
  if partE l.length i 0 = 0 then
    if chk s = 0 then
      if joinE l s = 0 then (l.take i.toNat ++ s ++ l.drop i.toNat, 0) else ([], joinE l s)
    else ([], chk s)
  else ([], 4)
theorem ins_perm (l s : List Int) (i : Nat) : (l.take i ++ s ++ l.drop i).Perm (l ++ s) := by
  have e : l.take i ++ l.drop i = l := List.take_append_drop i l
  conv => rhs; rw [← e]
  rw [List.append_assoc, List.append_assoc]
  exact List.Perm.append_left _ List.perm_append_comm

set_option maxHeartbeats 1000000 in
theorem ins_bad {t : T} {p : Option Addr} {w : World} (i : Int) (S : Option Addr) (n c : Nat) (ho : Ok t.list) (hi : i ≤ 9223372036854775807) (hb : partE t.count i 0 = 4) :
    Calls Try.prog 36 #[.agg #[.int .i64 t.count, .int .i64 t.total, .int .i64 t.depth, .pointer p], .int .i64 i, .slice S n c] w (GivesE (Ls []) 4 w) := by
  have HP := Lib.hid (part_any t.count t.total t.depth p i 0 ((w.alloc (.cells #[.int .i64 t.count, .int .i64 t.total, .int .i64 t.depth, .pointer p] 29)).alloc (.cells #[.int .i64 0, .int .i64 0, .int .i64 0, .pointer none] 29)) (T.bounds ho).2.2.1 hi)
  rw [hb] at HP
  have HB := Lib.hid (below_three w (.cells #[.int .i64 t.count, .int .i64 t.total, .int .i64 t.depth, .pointer p] 29) (.cells #[.int .i64 0, .int .i64 0, .int .i64 0, .pointer none] 29) (.cells #[.int .i64 t.count, .int .i64 t.total, .int .i64 t.depth, .pointer p] 29))
  have HX := Lib.hid (three_mem w (.cells #[.int .i64 t.count, .int .i64 t.total, .int .i64 t.depth, .pointer p] 29) (.cells #[.int .i64 0, .int .i64 0, .int .i64 0, .pointer none] 29) (.cells #[.int .i64 t.count, .int .i64 t.total, .int .i64 t.depth, .pointer p] 29)).2
  clear ho hi hb
  go_enter Try.func36, Try.ntmps36
  go_wp2_with fail
  refine HP.out.mono ?_
  rintro e w' ⟨rfl, rfl⟩
  go_wp2_with fail
  exact bodyPost_ret (res_rope_err rfl (g := w.heap.size + 1) rfl HX.out) rfl (gives_err HB.out)

set_option maxHeartbeats 2000000 in
theorem ins_chk {t : T} {p : Option Addr} {w : World} {i : Nat} (S : Option Addr) (c : Nat) (s : List Int) (hs : RdI w w.heap.size S s) (hsl : s.length ≤ 9223372036854775807) (ho : Ok t.list) (hi : i ≤ t.count) (hc0 : chk s ≠ 0) :
    Calls Try.prog 36 #[.agg #[.int .i64 t.count, .int .i64 t.total, .int .i64 t.depth, .pointer p], .int .i64 i, .slice S s.length c] w (GivesE (Ls []) (chk s) w) := by
  have hc := (T.bounds ho).2.2.1
  have HP := Lib.hid (part_any t.count t.total t.depth p i 0 ((w.alloc (.cells #[.int .i64 t.count, .int .i64 t.total, .int .i64 t.depth, .pointer p] 29)).alloc (.cells #[.int .i64 0, .int .i64 0, .int .i64 0, .pointer none] 29)) hc (by omega))
  rw [show partE t.count i 0 = 0 from partE_ok (n := 0) (by omega)] at HP
  have hB0 := below_three w (.cells #[.int .i64 t.count, .int .i64 t.total, .int .i64 t.depth, .pointer p] 29) (.cells #[.int .i64 0, .int .i64 0, .int .i64 0, .pointer none] 29) (.cells #[.int .i64 t.count, .int .i64 t.total, .int .i64 t.depth, .pointer p] 29)
  have hX := Lib.hid (three_mem w (.cells #[.int .i64 t.count, .int .i64 t.total, .int .i64 t.depth, .pointer p] 29) (.cells #[.int .i64 0, .int .i64 0, .int .i64 0, .pointer none] 29) (.cells #[.int .i64 t.count, .int .i64 t.total, .int .i64 t.depth, .pointer p] 29)).2
  have HF := Lib.hid (of_bad S c s (((w.alloc (.cells #[.int .i64 t.count, .int .i64 t.total, .int .i64 t.depth, .pointer p] 29)).alloc (.cells #[.int .i64 0, .int .i64 0, .int .i64 0, .pointer none] 29)).alloc (.cells #[.int .i64 t.count, .int .i64 t.total, .int .i64 t.depth, .pointer p] 29)) ((hs.below hB0).more hB0.size) hsl hc0)
  generalize chk s = r at *
  have hb : (r == 0) = false := by simpa using hc0
  have hb2 : (r != 0) = true := by simpa using hc0
  clear hs ho hi hc0
  go_enter Try.func36, Try.ntmps36
  go_wp2_with fail
  refine HP.out.mono ?_
  rintro e w' ⟨rfl, rfl⟩
  go_wp2_with fail
  refine HF.out.mono ?_
  rintro e w1 ⟨m, pm, k1, rfl, nm, kk⟩
  have hb1 := (Below.refl w1.heap.size w1).alloc (Nat.le_refl _) (.cells #[.int .i64 m.count, .int .i64 m.total, .int .i64 m.depth, .pointer pm] 29)
  have hR1 : Room w1 (w.heap.size + 1) := ⟨_, _, _, _, keep_heap kk hX.out⟩
  have hz : w.heap.size + 1 < w1.heap.size := by obtain ⟨_, _, _, _, h⟩ := hR1; exact heap_lt h
  have hR2 := hR1.keep hb1
  have hbw := (hB0.trans (kk.mono hB0.size)).trans (hb1.mono (Nat.le_trans hB0.size kk.size))
  clear kk hB0 hb1 k1 nm hR1
  go_upto_region 6 with fail
  obtain ⟨V, hRV, hbV, hV⟩ : ∃ V : World, Room V (w.heap.size + 1) ∧ Below w.heap.size w V ∧ V = w1.alloc (.cells #[.int .i64 m.count, .int .i64 m.total, .int .i64 m.depth, .pointer pm] 29) := ⟨_, hR2, hbw, rfl⟩
  rw [← hV]
  clear hV hR2 hbw
  obtain ⟨v0, v1, v2, v3, f0, f1, f2, f3, f4, f5, f6, f7⟩ := hRV.open_
  go_wp2_with fail
  refine bodyPost_ret (res_rope_err rfl (g := w.heap.size + 1) (c := 0) (x := 0) (d := 0) (p := none) rfl (heap_set4 hRV)) rfl ?_
  exact gives_err (below_set4 (g := w.heap.size + 1) hbV (by omega))

set_option maxHeartbeats 4000000 in
theorem ins_to {t : T} {p : Option Addr} {w : World} {i : Nat} (S : Option Addr) (c : Nat) (s : List Int) (hs : RdI w w.heap.size S s) (hsc : s.length ≤ c) (hcm : c ≤ 9223372036854775807) (hn : Nd w t p) (hbal : t.Bal) (ho : Ok t.list) (hi : i ≤ t.count) (hv : Vd s)
    {L : List Int} {F : Int} (hLF : (if joinE t.list s = 0 then (t.list.take i ++ s ++ t.list.drop i, 0) else ([], joinE t.list s)) = (L, F)) :
    Calls Try.prog 36 #[.agg #[.int .i64 t.count, .int .i64 t.total, .int .i64 t.depth, .pointer p], .int .i64 i, .slice S s.length c] w (GivesE (Ls L) F w) := by
  have hc := (T.bounds ho).2.2.1
  have HP := Lib.hid (part_any t.count t.total t.depth p i 0 ((w.alloc (.cells #[.int .i64 t.count, .int .i64 t.total, .int .i64 t.depth, .pointer p] 29)).alloc (.cells #[.int .i64 0, .int .i64 0, .int .i64 0, .pointer none] 29)) hc (by omega))
  rw [show partE t.count i 0 = 0 from partE_ok (n := 0) (by omega)] at HP
  have hB0 := below_three w (.cells #[.int .i64 t.count, .int .i64 t.total, .int .i64 t.depth, .pointer p] 29) (.cells #[.int .i64 0, .int .i64 0, .int .i64 0, .pointer none] 29) (.cells #[.int .i64 t.count, .int .i64 t.total, .int .i64 t.depth, .pointer p] 29)
  have hX := Lib.hid (three_mem w (.cells #[.int .i64 t.count, .int .i64 t.total, .int .i64 t.depth, .pointer p] 29) (.cells #[.int .i64 0, .int .i64 0, .int .i64 0, .pointer none] 29) (.cells #[.int .i64 t.count, .int .i64 t.total, .int .i64 t.depth, .pointer p] 29)).2
  have hT := Lib.hid (three_mem w (.cells #[.int .i64 t.count, .int .i64 t.total, .int .i64 t.depth, .pointer p] 29) (.cells #[.int .i64 0, .int .i64 0, .int .i64 0, .pointer none] 29) (.cells #[.int .i64 t.count, .int .i64 t.total, .int .i64 t.depth, .pointer p] 29)).1
  have HF := Lib.hid (of_ok S c s (((w.alloc (.cells #[.int .i64 t.count, .int .i64 t.total, .int .i64 t.depth, .pointer p] 29)).alloc (.cells #[.int .i64 0, .int .i64 0, .int .i64 0, .pointer none] 29)).alloc (.cells #[.int .i64 t.count, .int .i64 t.total, .int .i64 t.depth, .pointer p] 29)) ((hs.below hB0).more hB0.size) hv hsc hcm)
  have HN := Lib.hid hn
  have HBal := Lib.hid hbal
  have HO := Lib.hid ho
  have HI := Lib.hid hi
  have HS := Lib.hid hv.ok
  have HLF := Lib.hid hLF
  clear hs ho hi hn hbal hv hLF
  go_enter Try.func36, Try.ntmps36
  go_wp2_with fail
  refine HP.out.mono ?_
  rintro e w' ⟨rfl, rfl⟩
  go_wp2_with fail
  refine HF.out.mono ?_
  rintro e w1 ⟨m, pm, k1, rfl, nm, kk⟩
  have hb1 := (Below.refl w1.heap.size w1).alloc (Nat.le_refl _) (.cells #[.int .i64 m.count, .int .i64 m.total, .int .i64 m.depth, .pointer pm] 29)
  have hR1 : Room w1 (w.heap.size + 1) := ⟨_, _, _, _, keep_heap kk hX.out⟩
  have hz : w.heap.size + 1 < w1.heap.size := by obtain ⟨_, _, _, _, h⟩ := hR1; exact heap_lt h
  have hR2 := hR1.keep hb1
  have hbw := (hB0.trans (kk.mono hB0.size)).trans (hb1.mono (Nat.le_trans hB0.size kk.size))
  have HT1 := Lib.hid (keep_heap hb1 (keep_heap kk hT.out))
  have NM := Lib.hid (nm.below hb1)
  have HM := Lib.hid (heap_alloc_new w1 (.cells #[.int .i64 m.count, .int .i64 m.total, .int .i64 m.depth, .pointer pm] 29))
  have KL := Lib.hid k1.ls.list
  have KB := Lib.hid k1.ls.bal
  obtain ⟨x0, x1, x2, x3⟩ := rc_cells HT1.out
  have HJ := Lib.hid (joinE_any (a := t) (b := m) (pa := p) (pb := pm) (w := w1.alloc (.cells #[.int .i64 m.count, .int .i64 m.total, .int .i64 m.depth, .pointer pm] 29)) HO.out (by rw [KL.out]; exact HS.out))
  rw [KL.out] at HJ
  clear kk hB0 hb1 k1 nm hR1 HP HF
  by_cases hj : joinE t.list s = 0
  · rw [if_pos hj] at HLF
    rw [hj] at HJ
    obtain ⟨hL, hF⟩ := Prod.mk.inj HLF.out
    subst hF
    have HLL := Lib.hid hL
    have HPO := Lib.hid ((ok_of_joinE HO.out HS.out hj).perm (ins_perm t.list s i))
    clear hj hL HLF
    go_wp2_with fail
    refine HJ.out.mono ?_
    rintro e w2 ⟨rfl, kk⟩
    have hb2 := hbw.trans (kk.mono hbw.size)
    have hR3 := hR2.keep kk
    obtain ⟨y0, y1, y2, y3⟩ := rc_cells (keep_heap kk HT1.out)
    obtain ⟨z0, z1, z2, z3⟩ := rc_cells (keep_heap kk HM.out)
    have HCC := Lib.hid (put_any (r := t) (m := m) (i := i) HI.out (HN.out.below hb2) (NM.out.below kk) HBal.out KB.out (by rw [KL.out]; exact HPO.out) HO.out)
    clear kk hbw hR2 x0 x1 x2 x3 HT1 HM NM HJ
    go_wp2_with fail
    refine HCC.out.mono ?_
    rintro e w3 ⟨t3, p3, k3, rfl, n3, kk⟩
    have hR4 := hR3.keep kk
    have hb4 := hb2.trans (kk.mono hb2.size)
    have K3 := Lib.hid k3
    obtain ⟨v0, v1, v2, v3, f0, f1, f2, f3, f4, f5, f6, f7⟩ := hR4.open_
    clear kk k3 hb2 hR3 HCC
    go_wp2_with fail
    exact bodyPost_ret (res_rope_err rfl (g := w.heap.size + 1) rfl (heap_set4 hR4)) rfl (givesE_set ⟨by rw [K3.out.list, KL.out, HLL.out], K3.out.bal⟩ n3 hR4 (below_set4 hb4 (by omega)))
  · rw [if_neg hj] at HLF
    obtain ⟨hL, hF⟩ := Prod.mk.inj HLF.out
    subst hL
    rw [hF] at HJ hj
    have hb : (F == 0) = false := by simpa using hj
    have hb2 : (F != 0) = true := by simpa using hj
    clear hj hF HLF
    go_wp2_with fail
    refine HJ.out.mono ?_
    rintro e w2 ⟨rfl, kk⟩
    have hbb := hbw.trans (kk.mono hbw.size)
    have hR3 := hR2.keep kk
    obtain ⟨v0, v1, v2, v3, f0, f1, f2, f3, f4, f5, f6, f7⟩ := hR3.open_
    clear kk hbw hR2 x0 x1 x2 x3 HT1 HM NM HJ
    go_wp2_with fail
    refine bodyPost_ret (res_rope_err rfl (g := w.heap.size + 1) (c := 0) (x := 0) (d := 0) (p := none) rfl (heap_set4 hR3)) rfl ?_
    exact gives_err (below_set4 (g := w.heap.size + 1) hbb (by omega))

theorem ins_any {t : T} {p : Option Addr} {w : World} (i : Int) (S : Option Addr) (c : Nat) (s : List Int) (hs : RdI w w.heap.size S s) (hsc : s.length ≤ c) (hcm : c ≤ 9223372036854775807) (hn : Nd w t p) (hbal : t.Bal) (ho : Ok t.list) (hi : i ≤ 9223372036854775807) :
    Calls Try.prog 36 #[.agg #[.int .i64 t.count, .int .i64 t.total, .int .i64 t.depth, .pointer p], .int .i64 i, .slice S s.length c] w (GivesE (Ls (insR t.list i s).1) (insR t.list i s).2 w) := by
  unfold insR
  rw [T.len]
  by_cases h : partE t.count i 0 = 0
  · rw [if_pos h]
    obtain ⟨a, b, rfl, hb, hab⟩ := partE_cases h
    rw [Int.toNat_natCast]
    by_cases h2 : chk s = 0
    · rw [if_pos h2]
      exact ins_to S c s hs hsc hcm hn hbal ho (by omega) (chk_zero.1 h2) rfl
    · rw [if_neg h2]
      exact ins_chk S c s hs (by omega) ho (by omega) h2
  · rw [if_neg h]
    exact ins_bad i S _ c ho hi ((partE_two _ _ _).resolve_left h)

/-- what Set makes -/
def setR (l : List Int) (i x : Int) : List Int × Int :=
  if partE l.length i 1 = 0 then
    if x < 0 ∨ 2305843009213693952 < x then ([], 12)
    else if 4611686018427387904 < l.sum - l.getD i.toNat 0 + x then ([], 13)
    else (l.set i.toNat x, 0)
  else ([], 4)
theorem chk_one (x : Int) : chk [x] = if x < 0 ∨ 2305843009213693952 < x then 12 else 0 := by
  unfold chk
  rw [if_neg (by simp)]
  simp only [chkF]
  by_cases h : x < 0 ∨ 2305843009213693952 < x
  · rw [if_pos h, if_pos h]
  · rw [if_neg h, if_neg h, if_neg (by omega)]
theorem set_sum {l : List Int} {i : Nat} (h : i < l.length) (x : Int) : (l.set i x).sum = l.sum - l.getD i 0 + x := by
  induction l generalizing i with
  | nil => simp at h
  | cons a r ih =>
    cases i with
    | zero => simp; omega
    | succ i =>
      have := ih (i := i) (by simpa using h)
      simp at this ⊢
      omega

theorem RdI_one (w : World) (x : Int) : RdI (w.alloc (.cells #[.int .i64 x] 2)) (w.alloc (.cells #[.int .i64 x] 2)).heap.size (some ⟨w.heap.size, 0, none⟩) [x] := fun k hk => by
  obtain rfl : k = 0 := by simpa using hk
  exact ⟨w.heap.size, 0, rfl, by simp, cell_of_one (heap_alloc_new w _)⟩
set_option maxHeartbeats 1000000 in
theorem set_bad {t : T} {p : Option Addr} {w : World} (i x : Int) (ho : Ok t.list) (hi : i ≤ 9223372036854775807) (hb : i < 0 ∨ (t.count : Int) ≤ i) :
    Calls Try.prog 45 #[.agg #[.int .i64 t.count, .int .i64 t.total, .int .i64 t.depth, .pointer p], .int .i64 i, .int .i64 x] w (GivesE (Ls []) 4 w) := by
  have HP := Lib.hid (at_bad (p := p) (w := ((w.alloc (.cells #[.int .i64 t.count, .int .i64 t.total, .int .i64 t.depth, .pointer p] 29)).alloc (.cells #[.int .i64 0, .int .i64 0, .int .i64 0, .pointer none] 29))) i ho hi hb)
  have hB0 := below_two w (.cells #[.int .i64 t.count, .int .i64 t.total, .int .i64 t.depth, .pointer p] 29) (.cells #[.int .i64 0, .int .i64 0, .int .i64 0, .pointer none] 29)
  have hX := Lib.hid (two_heap w (.cells #[.int .i64 t.count, .int .i64 t.total, .int .i64 t.depth, .pointer p] 29) (.cells #[.int .i64 0, .int .i64 0, .int .i64 0, .pointer none] 29)).2
  clear ho hi hb
  go_enter Try.func45, Try.ntmps45
  go_wp2_with fail
  refine HP.out.mono ?_
  rintro e w1 ⟨rfl, kk⟩
  have hR1 : Room w1 (w.heap.size + 1) := ⟨_, _, _, _, keep_heap kk hX.out⟩
  have hb1 := hB0.trans (kk.mono hB0.size)
  obtain ⟨v0, v1, v2, v3, f0, f1, f2, f3, f4, f5, f6, f7⟩ := hR1.open_
  clear kk hB0 HP
  go_wp2_with fail
  refine bodyPost_ret (res_rope_err rfl (g := w.heap.size + 1) (c := 0) (x := 0) (d := 0) (p := none) rfl (heap_set4 hR1)) rfl ?_
  exact gives_err (below_set4 (g := w.heap.size + 1) hb1 (by omega))

set_option maxHeartbeats 2000000 in
theorem set_to {t : T} {p : Option Addr} {w : World} {i : Nat} {x v : Int} (hn : Nd w t p) (hbal : t.Bal) (ho : Ok t.list) (hi : t.list[i]? = some v) (hx1 : -9223372036854775808 ≤ x) (hx2 : x ≤ 9223372036854775807)
    {L : List Int} {F : Int} (hLF : (if x < 0 ∨ 2305843009213693952 < x then ([], 12) else if 4611686018427387904 < t.list.sum - v + x then ([], 13) else (t.list.set i x, 0)) = (L, F)) :
    Calls Try.prog 45 #[.agg #[.int .i64 t.count, .int .i64 t.total, .int .i64 t.depth, .pointer p], .int .i64 i, .int .i64 x] w (GivesE (Ls L) F w) := by
  have hB0 := below_two w (.cells #[.int .i64 t.count, .int .i64 t.total, .int .i64 t.depth, .pointer p] 29) (.cells #[.int .i64 0, .int .i64 0, .int .i64 0, .pointer none] 29)
  have HP := Lib.hid (at_ok (p := p) (w := ((w.alloc (.cells #[.int .i64 t.count, .int .i64 t.total, .int .i64 t.depth, .pointer p] 29)).alloc (.cells #[.int .i64 0, .int .i64 0, .int .i64 0, .pointer none] 29))) (hn.below hB0) ho hi)
  have hX := Lib.hid (two_heap w (.cells #[.int .i64 t.count, .int .i64 t.total, .int .i64 t.depth, .pointer p] 29) (.cells #[.int .i64 0, .int .i64 0, .int .i64 0, .pointer none] 29)).2
  have hT := Lib.hid (two_heap w (.cells #[.int .i64 t.count, .int .i64 t.total, .int .i64 t.depth, .pointer p] 29) (.cells #[.int .i64 0, .int .i64 0, .int .i64 0, .pointer none] 29)).1
  obtain ⟨b1, b2, b3, b4⟩ := T.bounds ho
  have hil := (List.getElem?_eq_some_iff.1 hi).1
  have hv0 : 0 ≤ v := ho.nn v (List.mem_of_getElem? hi)
  have hv1 : v ≤ t.total := by
    have h := set_sum hil 0
    have h0 : t.list.getD i 0 = v := by rw [List.getD_eq_getElem?_getD, hi]; rfl
    have h2 : 0 ≤ (t.list.set i 0).sum := sum_nn fun y hy => by
      rcases List.mem_or_eq_of_mem_set hy with h | h
      · exact ho.nn y h
      · omega
    rw [h0, T.sum] at h
    omega
  have HSO : Hid (0 ≤ x → t.list.sum - v + x ≤ 4611686018427387904 → Ok (t.list.set i x)) := Lib.hid (fun h0 h1 => by
    refine ⟨fun y hy => ?_, ?_, by rw [List.length_set]; exact ho.len⟩
    · rcases List.mem_or_eq_of_mem_set hy with h | h
      · exact ho.nn y h
      · omega
    · rw [set_sum hil, show t.list.getD i 0 = v by rw [List.getD_eq_getElem?_getD, hi]; rfl]
      exact h1)
  have HN := Lib.hid hn
  have HBal := Lib.hid hbal
  have HIL : Hid (i < t.count) := Lib.hid (by rw [← T.len]; exact hil)
  rw [T.sum] at hLF HSO
  have HLF := Lib.hid hLF
  clear ho hi hn hbal hil hLF
  go_enter Try.func45, Try.ntmps45
  go_wp2_with fail
  refine HP.out.mono ?_
  rintro e w1 ⟨rfl, kk⟩
  have hb1 := (Below.refl w1.heap.size w1).alloc (Nat.le_refl _) (.cells #[.int .i64 x] 2)
  have hR1 : Room w1 (w.heap.size + 1) := ⟨_, _, _, _, keep_heap kk hX.out⟩
  have hz : w.heap.size + 1 < w1.heap.size := by obtain ⟨_, _, _, _, h⟩ := hR1; exact heap_lt h
  have hR2 := hR1.keep hb1
  have hbw := (hB0.trans (kk.mono hB0.size)).trans (hb1.mono (Nat.le_trans hB0.size kk.size))
  have HT1 := Lib.hid (keep_heap hb1 (keep_heap kk hT.out))
  have HR := Lib.hid (RdI_one w1 x)
  have HC := Lib.hid (check_any (some ⟨w1.heap.size, 0, none⟩) 1 [x] (w1.alloc (.cells #[.int .i64 x] 2)) HR.out (by simp))
  rw [chk_one] at HC
  clear kk hB0 hb1 hR1 HP HR
  by_cases h1 : x < 0 ∨ 2305843009213693952 < x
  · rw [if_pos h1] at HLF HC
    obtain ⟨hL, hF⟩ := Prod.mk.inj HLF.out
    subst hL
    subst hF
    clear HLF h1
    go_wp2_with fail
    refine HC.out.mono ?_
    rintro e w' ⟨rfl, rfl⟩
    clear HC
    obtain ⟨V, hTV, hRV, hbV, hV⟩ : ∃ V : World, V.heap[w.heap.size]? = some (.cells (rc t.count t.total t.depth p) 29 (0, 0)) ∧ Room V (w.heap.size + 1) ∧ Below w.heap.size w V ∧ V = w1.alloc (.cells #[.int .i64 x] 2) := ⟨_, HT1.out, hR2, hbw, rfl⟩
    rw [← hV]
    clear hV hR2 hbw HT1
    obtain ⟨x0, x1, x2, x3⟩ := rc_cells hTV
    obtain ⟨v0, v1, v2, v3, f0, f1, f2, f3, f4, f5, f6, f7⟩ := hRV.open_
    clear hTV
    go_wp2_with fail
    refine bodyPost_ret (res_rope_err rfl (g := w.heap.size + 1) (c := 0) (x := 0) (d := 0) (p := none) rfl (heap_set4 hRV)) rfl ?_
    exact gives_err (below_set4 (g := w.heap.size + 1) hbV (by omega))
  · rw [if_neg h1] at HLF HC
    have h3 : 0 ≤ x := by omega
    have h4 : x ≤ 2305843009213693952 := by omega
    clear h1
    by_cases h2 : 4611686018427387904 < t.total - v + x
    · rw [if_pos h2] at HLF
      obtain ⟨hL, hF⟩ := Prod.mk.inj HLF.out
      subst hL
      subst hF
      clear HLF
      go_wp2_with fail
      refine HC.out.mono ?_
      rintro e w' ⟨rfl, rfl⟩
      clear HC
      obtain ⟨V, hTV, hRV, hbV, hV⟩ : ∃ V : World, V.heap[w.heap.size]? = some (.cells (rc t.count t.total t.depth p) 29 (0, 0)) ∧ Room V (w.heap.size + 1) ∧ Below w.heap.size w V ∧ V = w1.alloc (.cells #[.int .i64 x] 2) := ⟨_, HT1.out, hR2, hbw, rfl⟩
      rw [← hV]
      clear hV hR2 hbw HT1
      obtain ⟨x0, x1, x2, x3⟩ := rc_cells hTV
      obtain ⟨v0, v1, v2, v3, f0, f1, f2, f3, f4, f5, f6, f7⟩ := hRV.open_
      clear hTV
      go_wp2_with fail
      refine bodyPost_ret (res_rope_err rfl (g := w.heap.size + 1) (c := 0) (x := 0) (d := 0) (p := none) rfl (heap_set4 hRV)) rfl ?_
      exact gives_err (below_set4 (g := w.heap.size + 1) hbV (by omega))
    · rw [if_neg h2] at HLF
      obtain ⟨hL, hF⟩ := Prod.mk.inj HLF.out
      subst hF
      have HLL := Lib.hid hL
      have HSS := Lib.hid (HSO.out h3 (by omega))
      clear HLF hL HSO
      go_wp2_with fail
      refine HC.out.mono ?_
      rintro e w' ⟨rfl, rfl⟩
      clear HC
      obtain ⟨V, hTV, hRV, hbV, hV⟩ : ∃ V : World, V.heap[w.heap.size]? = some (.cells (rc t.count t.total t.depth p) 29 (0, 0)) ∧ Room V (w.heap.size + 1) ∧ Below w.heap.size w V ∧ V = w1.alloc (.cells #[.int .i64 x] 2) := ⟨_, HT1.out, hR2, hbw, rfl⟩
      rw [← hV]
      clear hV hR2 hbw HT1
      obtain ⟨x0, x1, x2, x3⟩ := rc_cells hTV
      obtain ⟨v0, v1, v2, v3, f0, f1, f2, f3, f4, f5, f6, f7⟩ := hRV.open_
      clear hTV
      have HW := Lib.hid (with_at x t HIL.out (HN.out.below hbV) HBal.out HSS.out)
      clear f0 f1 f2 f3 f4 f5 f6 f7
      go_wp2_with fail
      refine HW.out.mono ?_
      rintro e w3 ⟨t3, p3, k3, rfl, n3, kk⟩
      have hR4 := hRV.keep kk
      have hb4 := hbV.trans (kk.mono hbV.size)
      have K3 := Lib.hid k3
      clear kk k3 hbV hRV HW
      obtain ⟨v0, v1, v2, v3, f0, f1, f2, f3, f4, f5, f6, f7⟩ := hR4.open_
      go_wp2_with fail
      exact bodyPost_ret (res_rope_err rfl (g := w.heap.size + 1) rfl (heap_set4 hR4)) rfl (givesE_set ⟨by rw [K3.out.list, HLL.out], K3.out.bal⟩ n3 hR4 (below_set4 hb4 (by omega)))

theorem set_any {t : T} {p : Option Addr} {w : World} (i x : Int) (hn : Nd w t p) (hbal : t.Bal) (ho : Ok t.list) (hi : i ≤ 9223372036854775807) (hx1 : -9223372036854775808 ≤ x) (hx2 : x ≤ 9223372036854775807) :
    Calls Try.prog 45 #[.agg #[.int .i64 t.count, .int .i64 t.total, .int .i64 t.depth, .pointer p], .int .i64 i, .int .i64 x] w (GivesE (Ls (setR t.list i x).1) (setR t.list i x).2 w) := by
  unfold setR
  rw [T.len]
  by_cases h : partE t.count i 1 = 0
  · rw [if_pos h]
    obtain ⟨a, b, rfl, hb, hab⟩ := partE_cases h
    have hal : a < t.list.length := by rw [T.len]; omega
    rw [Int.toNat_natCast, List.getD_eq_getElem?_getD, List.getElem?_eq_getElem hal]
    exact set_to hn hbal ho (List.getElem?_eq_getElem hal) hx1 hx2 rfl
  · rw [if_neg h]
    refine set_bad i x ho hi ?_
    have := (partE_two _ _ _).resolve_left h
    unfold partE at this
    split at this
    · omega
    · omega
end Go.Proofs.Ytdejdnkkbpmmlaa
