/- Set of an index. -/
import Derived.Test.YtdejdnkkbpmmlaaMRmW
namespace Go.Proofs.Ytdejdnkkbpmmlaa
open Go.RowKit

theorem chk1_one {x : Int} : chk1 [x] = if x < 1 ∨ 2305843009213693952 < x then 12 else 0 := by
  unfold chk1
  rw [chk1F_cons]
  by_cases h : x < 1 ∨ 2305843009213693952 < x
  · rw [if_pos h, if_pos h]
  · rw [if_neg h, if_neg h, if_neg (by omega)]; rfl
set_option maxRecDepth 100000 in
set_option maxHeartbeats 8000000 in
theorem st_bad {w : World} {r : List (Int × Bool)} {t : T} {p A : Option Addr} {c : Nat} {xs : List S.Sp} (h : Ix w r t p A c xs) (i x : Int) (b : Bool) (hi : i ≤ 9223372036854775807) (hp : partE r.length i 1 = 4) :
    Calls Try.prog 26 #[.agg #[.int .i64 t.count, .int .i64 t.total, .int .i64 t.depth, .pointer p, .slice A xs.length c], .int .i64 i, .int .i64 x, .bool b] w (IxE ([], 4) w) := by
  have hb2 := below_two w (.cells #[.int .i64 t.count, .int .i64 t.total, .int .i64 t.depth, .pointer p, .slice A xs.length c] 32) (.cells #[.int .i64 0, .int .i64 0, .int .i64 0, .pointer none, .slice none 0 0] 32)
  obtain ⟨q1, q2⟩ := two_heap w (.cells #[.int .i64 t.count, .int .i64 t.total, .int .i64 t.depth, .pointer p, .slice A xs.length c] 32) (.cells #[.int .i64 0, .int .i64 0, .int .i64 0, .pointer none, .slice none 0 0] 32)
  obtain ⟨x0, x1, x2, x3, x4⟩ := box5 q1
  have hk := size_any (h.next hb2) i hi
  have hbad : i < 0 ∨ (r.length : Int) ≤ i := by
    unfold partE at hp
    split at hp
    · omega
    · cases hp
  rw [show sizeR r i = (0, 4) from if_pos hbad] at hk
  have HK := Lib.hid hk
  have HB := Lib.hid hb2
  have HR : Hid (Room5 _ (w.heap.size + 1)) := Lib.hid ⟨_, _, _, _, _, q2⟩
  clear h hb2 q1 q2 hk hp hbad
  go_enter Try.func26, Try.ntmps26
  go_wp2_with fail
  refine HK.out.mono ?_
  rintro e w1 ⟨rfl, kk⟩
  have HB1 := Lib.hid (HB.out.trans (kk.mono HB.out.size))
  have HR1 := Lib.hid (HR.out.keep kk)
  clear kk HB HR HK x0 x1 x2 x3 x4
  obtain ⟨v0, v1, v2, v3, v4, c0, c1, c2, c3, c4, f0, f1, f2, f3, f4⟩ := HR1.out.open_
  go_wp2_with fail
  exact bodyPost_ret (res_ix_err (t := 8) (u := 9) rfl (g := w.heap.size + 1) rfl (heap_set5 HR1.out)) rfl (ixe_err HB1.out (Nat.le_succ _))
set_option maxRecDepth 100000 in
set_option maxHeartbeats 8000000 in
theorem st_height {w : World} {r : List (Int × Bool)} {t : T} {p A : Option Addr} {c : Nat} {xs : List S.Sp} (h : Ix w r t p A c xs) (i : Nat) (x : Int) (b : Bool) (hp : i < r.length) (hx : x < 1 ∨ 2305843009213693952 < x) :
    Calls Try.prog 26 #[.agg #[.int .i64 t.count, .int .i64 t.total, .int .i64 t.depth, .pointer p, .slice A xs.length c], .int .i64 i, .int .i64 x, .bool b] w (IxE ([], 12) w) := by
  have hrl := h.vr.len
  have hb2 := below_two w (.cells #[.int .i64 t.count, .int .i64 t.total, .int .i64 t.depth, .pointer p, .slice A xs.length c] 32) (.cells #[.int .i64 0, .int .i64 0, .int .i64 0, .pointer none, .slice none 0 0] 32)
  obtain ⟨q1, q2⟩ := two_heap w (.cells #[.int .i64 t.count, .int .i64 t.total, .int .i64 t.depth, .pointer p, .slice A xs.length c] 32) (.cells #[.int .i64 0, .int .i64 0, .int .i64 0, .pointer none, .slice none 0 0] 32)
  obtain ⟨x0, x1, x2, x3, x4⟩ := box5 q1
  have hi' : (i : Int) ≤ 9223372036854775807 := by omega
  have hk := size_any (h.next hb2) (i : Int) hi'
  obtain ⟨v, hv⟩ : ∃ v, sizeR r (i : Int) = (v, 0) := ⟨_, if_neg (by omega)⟩
  rw [hv] at hk
  have HK := Lib.hid hk
  have HB := Lib.hid hb2
  have HIX := Lib.hid h
  have HQ1 := Lib.hid q1
  have HR : Hid (Room5 _ (w.heap.size + 1)) := Lib.hid ⟨_, _, _, _, _, q2⟩
  clear h hb2 q1 q2 hk hv hi'
  go_enter Try.func26, Try.ntmps26
  go_wp2_with fail
  refine HK.out.mono ?_
  rintro e w1 ⟨rfl, kk⟩
  have HB1 := Lib.hid (HB.out.trans (kk.mono HB.out.size))
  have HR1 := Lib.hid (HR.out.keep kk)
  have HQ2 := Lib.hid (keep_heap kk HQ1.out)
  clear kk HB HR HK HQ1 x0 x1 x2 x3 x4
  have bl := below_new w1 (.cells #[.int .i64 x] 2)
  have hck := check1_any (some ⟨w1.heap.size, 0, none⟩) 1 [x] (w1.alloc (.cells #[.int .i64 x] 2)) (RdI_one w1 x) (by simp) (by simp)
  rw [chk1_one] at hck
  rw [if_pos hx] at hck
  have HC := Lib.hid hck
  have HB2 := Lib.hid (HB1.out.trans (bl.mono HB1.out.size))
  have HR2 := Lib.hid (HR1.out.keep bl)
  clear bl hck HB1 HR1 HQ2 HIX hx
  go_wp2_with fail
  refine HC.out.mono ?_
  rintro e w2 ⟨rfl, rfl⟩
  clear HC
  obtain ⟨v0, v1, v2, v3, v4, c0, c1, c2, c3, c4, f0, f1, f2, f3, f4⟩ := HR2.out.open_
  go_wp2_with fail
  exact bodyPost_ret (res_ix_err (t := 8) (u := 9) rfl (g := w.heap.size + 1) rfl (heap_set5 HR2.out)) rfl (ixe_err HB2.out (Nat.le_succ _))
set_option maxRecDepth 100000 in
set_option maxHeartbeats 8000000 in
theorem st_over {w : World} {r : List (Int × Bool)} {t : T} {p A : Option Addr} {c : Nat} {xs : List S.Sp} (h : Ix w r t p A c xs) (i : Nat) (x : Int) (b : Bool) (hp : i < r.length) (hx : ¬ (x < 1 ∨ 2305843009213693952 < x)) (hs : 4611686018427387904 < (sz r).sum - (sz r).getD i 0 + x) :
    Calls Try.prog 26 #[.agg #[.int .i64 t.count, .int .i64 t.total, .int .i64 t.depth, .pointer p, .slice A xs.length c], .int .i64 i, .int .i64 x, .bool b] w (IxE ([], 13) w) := by
  have hrl := h.vr.len
  have hb2 := below_two w (.cells #[.int .i64 t.count, .int .i64 t.total, .int .i64 t.depth, .pointer p, .slice A xs.length c] 32) (.cells #[.int .i64 0, .int .i64 0, .int .i64 0, .pointer none, .slice none 0 0] 32)
  obtain ⟨q1, q2⟩ := two_heap w (.cells #[.int .i64 t.count, .int .i64 t.total, .int .i64 t.depth, .pointer p, .slice A xs.length c] 32) (.cells #[.int .i64 0, .int .i64 0, .int .i64 0, .pointer none, .slice none 0 0] 32)
  obtain ⟨x0, x1, x2, x3, x4⟩ := box5 q1
  have hi' : (i : Int) ≤ 9223372036854775807 := by omega
  have hk := size_any (h.next hb2) (i : Int) hi'
  obtain ⟨v, hv⟩ : ∃ v, sizeR r (i : Int) = (v, 0) := ⟨_, if_neg (by omega)⟩
  rw [hv] at hk
  have HK := Lib.hid hk
  have HB := Lib.hid hb2
  have HIX := Lib.hid h
  have HQ1 := Lib.hid q1
  have HR : Hid (Room5 _ (w.heap.size + 1)) := Lib.hid ⟨_, _, _, _, _, q2⟩
  clear h hb2 q1 q2 hk hv hi'
  go_enter Try.func26, Try.ntmps26
  go_wp2_with fail
  refine HK.out.mono ?_
  rintro e w1 ⟨rfl, kk⟩
  have HB1 := Lib.hid (HB.out.trans (kk.mono HB.out.size))
  have HR1 := Lib.hid (HR.out.keep kk)
  have HQ2 := Lib.hid (keep_heap kk HQ1.out)
  clear kk HB HR HK HQ1 x0 x1 x2 x3 x4
  have bl := below_new w1 (.cells #[.int .i64 x] 2)
  have hck := check1_any (some ⟨w1.heap.size, 0, none⟩) 1 [x] (w1.alloc (.cells #[.int .i64 x] 2)) (RdI_one w1 x) (by simp) (by simp)
  rw [chk1_one] at hck
  rw [if_neg hx] at hck
  have HC := Lib.hid hck
  have HB2 := Lib.hid (HB1.out.trans (bl.mono HB1.out.size))
  have HR2 := Lib.hid (HR1.out.keep bl)
  have HQ3 := Lib.hid (keep_heap bl HQ2.out)
  clear bl hck HB1 HR1 HQ2
  go_wp2_with fail
  refine HC.out.mono ?_
  rintro e w2 ⟨rfl, hw2⟩
  rw [hw2] at HB2 HR2 HQ3
  clear HC hw2
  obtain ⟨x0, x1, x2, x3, x4⟩ := box5 HQ3.out
  have HI := HIX.out.next HB2.out
  have hk := set_any (i : Int) x HI.nd HI.ls.bal HI.ok (by omega) (by omega) (by omega)
  rw [HI.ls.list, setI_setR b hx] at hk
  unfold setI at hk
  have hpe : partE r.length (i : Int) 1 = 0 := by unfold partE; rw [if_neg (by omega)]
  rw [if_pos hpe, if_neg hx] at hk
  rw [if_pos (show 4611686018427387904 < (sz r).sum - (sz r).getD (i : Int).toNat 0 + x from hs)] at hk
  have HK := Lib.hid hk
  clear hk hpe HI HIX hs hx hp hrl
  go_wp2_with fail
  refine HK.out.mono ?_
  rintro e w3 ⟨t2, p2, _, rfl, _, kk⟩
  have bn := below_new w3 (.cells #[.int .i64 t2.count, .int .i64 t2.total, .int .i64 t2.depth, .pointer p2] 29)
  have HB3 := Lib.hid ((HB2.out.trans (kk.mono HB2.out.size)).trans (bn.mono (HB2.out.trans (kk.mono HB2.out.size)).size))
  have HR3 := Lib.hid ((HR2.out.keep kk).keep bn)
  clear kk bn HB2 HR2 HK HQ3 x0 x1 x2 x3 x4
  obtain ⟨v0, v1, v2, v3, v4, c0, c1, c2, c3, c4, f0, f1, f2, f3, f4⟩ := HR3.out.open_
  go_wp2_with fail
  exact bodyPost_ret (res_ix_err (t := 8) (u := 9) rfl (g := w.heap.size + 1) rfl (heap_set5 HR3.out)) rfl (ixe_err HB3.out (Nat.le_succ _))
set_option maxRecDepth 100000 in
set_option maxHeartbeats 8000000 in
theorem st_ok {w : World} {r : List (Int × Bool)} {t : T} {p A : Option Addr} {c : Nat} {xs : List S.Sp} (h : Ix w r t p A c xs) (i : Nat) (x : Int) (b : Bool) (hp : i < r.length) (hx : ¬ (x < 1 ∨ 2305843009213693952 < x)) (hs0 : ¬ 4611686018427387904 < (sz r).sum - (sz r).getD i 0 + x) :
    Calls Try.prog 26 #[.agg #[.int .i64 t.count, .int .i64 t.total, .int .i64 t.depth, .pointer p, .slice A xs.length c], .int .i64 i, .int .i64 x, .bool b] w (IxE (r.set i (x, b), 0) w) := by
  have HS0 := Lib.hid (show ¬ 4611686018427387904 < (sz r).sum - (sz r).getD (i : Int).toNat 0 + x from hs0)
  clear hs0
  have hrl := h.vr.len
  have hb2 := below_two w (.cells #[.int .i64 t.count, .int .i64 t.total, .int .i64 t.depth, .pointer p, .slice A xs.length c] 32) (.cells #[.int .i64 0, .int .i64 0, .int .i64 0, .pointer none, .slice none 0 0] 32)
  obtain ⟨q1, q2⟩ := two_heap w (.cells #[.int .i64 t.count, .int .i64 t.total, .int .i64 t.depth, .pointer p, .slice A xs.length c] 32) (.cells #[.int .i64 0, .int .i64 0, .int .i64 0, .pointer none, .slice none 0 0] 32)
  obtain ⟨x0, x1, x2, x3, x4⟩ := box5 q1
  have hi' : (i : Int) ≤ 9223372036854775807 := by omega
  have hk := size_any (h.next hb2) (i : Int) hi'
  obtain ⟨v, hv⟩ : ∃ v, sizeR r (i : Int) = (v, 0) := ⟨_, if_neg (by omega)⟩
  rw [hv] at hk
  have HK := Lib.hid hk
  have HB := Lib.hid hb2
  have HIX := Lib.hid h
  have HQ1 := Lib.hid q1
  have HR : Hid (Room5 _ (w.heap.size + 1)) := Lib.hid ⟨_, _, _, _, _, q2⟩
  clear h hb2 q1 q2 hk hv hi'
  go_enter Try.func26, Try.ntmps26
  go_wp2_with fail
  refine HK.out.mono ?_
  rintro e w1 ⟨rfl, kk⟩
  have HB1 := Lib.hid (HB.out.trans (kk.mono HB.out.size))
  have HR1 := Lib.hid (HR.out.keep kk)
  have HQ2 := Lib.hid (keep_heap kk HQ1.out)
  clear kk HB HR HK HQ1 x0 x1 x2 x3 x4
  have bl := below_new w1 (.cells #[.int .i64 x] 2)
  have hck := check1_any (some ⟨w1.heap.size, 0, none⟩) 1 [x] (w1.alloc (.cells #[.int .i64 x] 2)) (RdI_one w1 x) (by simp) (by simp)
  rw [chk1_one] at hck
  rw [if_neg hx] at hck
  have HC := Lib.hid hck
  have HB2 := Lib.hid (HB1.out.trans (bl.mono HB1.out.size))
  have HR2 := Lib.hid (HR1.out.keep bl)
  have HQ3 := Lib.hid (keep_heap bl HQ2.out)
  clear bl hck HB1 HR1 HQ2
  go_wp2_with fail
  refine HC.out.mono ?_
  rintro e w2 ⟨rfl, hw2⟩
  rw [hw2] at HB2 HR2 HQ3
  clear HC hw2
  obtain ⟨x0, x1, x2, x3, x4⟩ := box5 HQ3.out
  have HI := HIX.out.next HB2.out
  have hk := set_any (i : Int) x HI.nd HI.ls.bal HI.ok (by omega) (by omega) (by omega)
  rw [HI.ls.list, setI_setR b hx] at hk
  unfold setI at hk
  have hpe : partE r.length (i : Int) 1 = 0 := by unfold partE; rw [if_neg (by omega)]
  rw [if_pos hpe, if_neg hx] at hk
  rw [if_neg (Int.not_lt.2 HS0.out)] at hk
  have hvr := setI_vr HIX.out.vr (i : Int) x b
  unfold setI at hvr
  rw [if_pos hpe, if_neg hx, if_neg (Int.not_lt.2 HS0.out)] at hvr
  simp only [Int.toNat_natCast] at hk hvr
  have HVR := Lib.hid hvr
  have HK := Lib.hid hk
  have HM := Lib.hid (show ∀ U, Below w.heap.size w U → Calls Try.prog 39 #[.slice A xs.length c, .int .i64 i, .int .i64 1, .bool b] U (SetV (r.set i (x, b)) A xs 1 U) from fun U k => mark_any HIX.out.set ((HIX.out.rd.below k).more k.size) hrl HIX.out.cap i 1 (by omega) b (by simp; omega) (fun j => set_kn HIX.out.set hp x b j))
  clear hk hpe HI HIX HS0 hx hrl hvr
  go_wp2_with fail
  refine HK.out.mono ?_
  rintro e w3 ⟨t2, p2, hs2, rfl, hn2, kk⟩
  have bn := below_new w3 (.cells #[.int .i64 t2.count, .int .i64 t2.total, .int .i64 t2.depth, .pointer p2] 29)
  have VA : Hid (Va w _ (w.heap.size + 1) w3.heap.size #[.int .i64 t.count, .int .i64 t.total, .int .i64 t.depth, .pointer p, .slice A xs.length c] t2 p2) := Lib.hid
    ⟨keep_heap bn (keep_heap kk HQ3.out), heap_alloc_new w3 _, hn2.below bn, (HR2.out.keep kk).keep bn, (HB2.out.trans (kk.mono HB2.out.size)).trans (bn.mono (HB2.out.trans (kk.mono HB2.out.size)).size), Nat.lt_succ_self _, by
      obtain ⟨_, _, _, _, _, hr⟩ := HR2.out.keep kk
      exact heap_lt hr⟩
  have HLS := Lib.hid hs2
  clear kk bn HB2 HR2 HK HQ3 hs2 hn2 x0 x1 x2 x3 x4
  go_upto_region 10 with fail
  obtain ⟨W2, hW2⟩ : ∃ W, w3.alloc (.cells #[.int .i64 t2.count, .int .i64 t2.total, .int .i64 t2.depth, .pointer p2] 29) = W := ⟨_, rfl⟩
  obtain ⟨g2, hg2⟩ : ∃ g, w3.heap.size = g := ⟨_, rfl⟩
  rw [hW2] at VA ⊢
  rw [hg2] at VA ⊢
  clear hW2 hg2
  obtain ⟨P, hP⟩ : ∃ P : World → Prop, (fun U => Va w U (w.heap.size + 1) g2 #[.int .i64 t.count, .int .i64 t.total, .int .i64 t.depth, .pointer p, .slice A xs.length c] t2 p2) = P := ⟨_, rfl⟩
  have hP0 : P W2 := by rw [← hP]; exact VA.out
  have PC := Lib.hid (show ∀ U, P U → (P U ∧ U.cell? ⟨g2, 0, none⟩ = some (.int .i64 t2.count) ∧ U.cell? ⟨g2, 1, none⟩ = some (.int .i64 t2.total) ∧ U.cell? ⟨g2, 2, none⟩ = some (.int .i64 t2.depth) ∧ U.cell? ⟨g2, 3, none⟩ = some (.pointer p2) ∧ U.cell? ⟨w.heap.size, 4, none⟩ = some (.slice A xs.length c)) from fun U h => by
    have h' := h
    rw [← hP] at h'
    exact ⟨h, (rc_cells h'.var).1, (rc_cells h'.var).2.1, (rc_cells h'.var).2.2.1, (rc_cells h'.var).2.2.2, (box5 h'.box).2.2.2.2⟩)
  have PN := Lib.hid (show ∀ U U', P U → Below U.heap.size U U' → P U' from fun U U' h kk => by
    rw [← hP] at h ⊢
    exact h.next kk)
  have PS := Lib.hid (show ∀ U a0 a1 a2 a3 a4, P U → P (((((U.setCell ⟨w.heap.size + 1, 0, none⟩ a0).setCell ⟨w.heap.size + 1, 1, none⟩ a1).setCell ⟨w.heap.size + 1, 2, none⟩ a2).setCell ⟨w.heap.size + 1, 3, none⟩ a3).setCell ⟨w.heap.size + 1, 4, none⟩ a4) from fun U a0 a1 a2 a3 a4 h => by
    rw [← hP] at h ⊢
    exact h.set5 _ _ _ _ _)
  have PV := Lib.hid (show ∀ U, P U → Va w U (w.heap.size + 1) g2 #[.int .i64 t.count, .int .i64 t.total, .int .i64 t.depth, .pointer p, .slice A xs.length c] t2 p2 from fun U h => by
    rw [← hP] at h
    exact h)
  have HP0 := Lib.hid (PN.out _ _ hP0 (drew_below W2))
  clear hP hP0 VA
  go_region_held3 (fun U => P U ∧ U.cell? ⟨g2, 0, none⟩ = some (.int .i64 t2.count) ∧ U.cell? ⟨g2, 1, none⟩ = some (.int .i64 t2.total) ∧ U.cell? ⟨g2, 2, none⟩ = some (.int .i64 t2.depth) ∧ U.cell? ⟨g2, 3, none⟩ = some (.pointer p2) ∧ U.cell? ⟨w.heap.size, 4, none⟩ = some (.slice A xs.length c))
    (first
      | with_reducible exact PC.out _ HP0.out
      | with_reducible exact PC.out _ hp1.out
      | with_reducible exact PC.out _ (PS.out _ _ _ _ _ _ hp1.out)
      | (trace_state; fail))
    (first | (go_at_call 39; refine (HM.out _ (PV.out _ HP0.out).u).mono ?_; rintro e w4 ⟨A3, out, c3, rfl, hset3, hrd3, hc3, hfr3, k1⟩; have hp1 := Lib.hid (PN.out _ _ HP0.out k1); have hfar : Hid (Far (w.heap.size + 1) A3 out) := Lib.hid (hfr3 _ (fun h => absurd h (by decide)) (PV.out _ HP0.out).lt); have hall : Hid (∀ g, g < w.heap.size → Far g A3 out) := Lib.hid (fun g hg => hfr3 g (fun h => absurd h (by decide)) (Nat.lt_of_lt_of_le hg (PV.out _ HP0.out).u.size)); have hset := Lib.hid hset3; have hrd := Lib.hid hrd3; have hcap := Lib.hid hc3; clear hset3 hrd3 hfr3 hc3; obtain ⟨v0, v1, v2, v3, v4, c0, c1, c2, c3, c4, f0, f1, f2, f3, f4⟩ := (PV.out _ hp1.out).rm.open_))
  all_goals (
    go_wp2_with fail
    exact bodyPost_ret (res_ix_err (t := 8) (u := 9) rfl (g := w.heap.size + 1) rfl (heap_set5 (PV.out _ hp1.out).rm)) rfl ((PV.out _ hp1.out).ret HLS.out hset.out hrd.out hfar.out hcap.out HVR.out hall.out))
theorem st_any {w : World} {r : List (Int × Bool)} {t : T} {p A : Option Addr} {c : Nat} {xs : List S.Sp} (h : Ix w r t p A c xs) (i x : Int) (b : Bool) (hi : i ≤ 9223372036854775807) :
    Calls Try.prog 26 #[.agg #[.int .i64 t.count, .int .i64 t.total, .int .i64 t.depth, .pointer p, .slice A xs.length c], .int .i64 i, .int .i64 x, .bool b] w (IxE (setI r i x b) w) := by
  unfold setI
  rcases partE_two r.length i 1 with hp | hp
  · rw [if_pos hp]
    obtain ⟨a, m, rfl, hm, ham⟩ := part_nat hp
    obtain rfl : m = 1 := by omega
    by_cases hx : x < 1 ∨ 2305843009213693952 < x
    · rw [if_pos hx]; exact st_height h a x b (by omega) hx
    · rw [if_neg hx]
      by_cases hs : 4611686018427387904 < (sz r).sum - (sz r).getD a 0 + x
      · rw [if_pos (show 4611686018427387904 < (sz r).sum - (sz r).getD (a : Int).toNat 0 + x from hs)]; exact st_over h a x b (by omega) hx hs
      · rw [if_neg (show ¬ 4611686018427387904 < (sz r).sum - (sz r).getD (a : Int).toNat 0 + x from hs)]; exact st_ok h a x b (by omega) hx hs
  · rw [if_neg (by rw [hp]; decide)]
    exact st_bad h i x b hi hp
end Go.Proofs.Ytdejdnkkbpmmlaa
