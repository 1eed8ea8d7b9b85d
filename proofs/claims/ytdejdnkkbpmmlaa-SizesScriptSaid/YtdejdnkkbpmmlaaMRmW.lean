/- Remove of an index. -/
import Derived.Test.YtdejdnkkbpmmlaaMVrA
namespace Go.Proofs.Ytdejdnkkbpmmlaa
open Go.RowKit

/-- the receiver's box, the new rope in its variable, the cell of the result -/
structure Va (w U : World) (g1 g2 : Nat) (bx : Array Value) (t : T) (p : Option Addr) : Prop where
  box : U.heap[w.heap.size]? = some (.cells bx 32 (0, 0))
  var : U.heap[g2]? = some (.cells (rc t.count t.total t.depth p) 29 (0, 0))
  nd : Nd U t p
  rm : Room5 U g1
  u : Below w.heap.size w U
  d1 : w.heap.size < g1
  d2 : g1 < g2
theorem Va.next {w U U' : World} {g1 g2 : Nat} {bx : Array Value} {t : T} {p : Option Addr} (h : Va w U g1 g2 bx t p) (kk : Below U.heap.size U U') : Va w U' g1 g2 bx t p :=
  ⟨keep_heap kk h.box, keep_heap kk h.var, h.nd.below kk, h.rm.keep kk, h.u.trans (kk.mono h.u.size), h.d1, h.d2⟩
theorem Va.set5 {w U : World} {g1 g2 : Nat} {bx : Array Value} {t : T} {p : Option Addr} (h : Va w U g1 g2 bx t p) (a0 a1 a2 a3 a4 : Value) :
    Va w (((((U.setCell ⟨g1, 0, none⟩ a0).setCell ⟨g1, 1, none⟩ a1).setCell ⟨g1, 2, none⟩ a2).setCell ⟨g1, 3, none⟩ a3).setCell ⟨g1, 4, none⟩ a4) g1 g2 bx t p :=
  ⟨far_set5 (Nat.ne_of_lt h.d1) h.box, far_set5 (Nat.ne_of_gt h.d2) h.var, h.nd.set5 h.rm, ⟨_, _, _, _, _, heap_set5 h.rm⟩, below_set5 h.u (Nat.le_of_lt h.d1), h.d1, h.d2⟩
theorem Va.lt {w U : World} {g1 g2 : Nat} {bx : Array Value} {t : T} {p : Option Addr} (h : Va w U g1 g2 bx t p) : g1 < U.heap.size := by
  obtain ⟨_, _, _, _, _, hr⟩ := h.rm
  exact heap_lt hr
theorem drew_below (W : World) : Below W.heap.size W W.drew := ⟨rfl, rfl, rfl, Nat.le_refl _, fun _ _ => rfl⟩
theorem part_nat {k : Nat} {i n : Int} (h : partE k i n = 0) : ∃ a m : Nat, i = a ∧ n = m ∧ a + m ≤ k := by
  unfold partE at h
  split at h
  · cases h
  · obtain ⟨a, rfl⟩ := Int.eq_ofNat_of_zero_le (show 0 ≤ i by omega)
    obtain ⟨m, rfl⟩ := Int.eq_ofNat_of_zero_le (show 0 ≤ n by omega)
    exact ⟨a, m, rfl, rfl, by omega⟩
/-- an error is handed back, with an index without rows -/
theorem ixe_err {f : Int} {w W : World} {g : Nat} (hb : Below w.heap.size w W) (hg : w.heap.size ≤ g) :
    IxE ([], f) w (.returned (.tuple #[.agg #[.int .i64 0, .int .i64 0, .int .i64 0, .pointer none, .slice none 0 0], .int .i64 f]))
      (((((W.setCell ⟨g, 0, none⟩ (.int .i64 0)).setCell ⟨g, 1, none⟩ (.int .i64 0)).setCell ⟨g, 2, none⟩ (.int .i64 0)).setCell ⟨g, 3, none⟩ (.pointer none)).setCell ⟨g, 4, none⟩ (.slice none 0 0)) :=
  ⟨.nil, none, none, 0, [], rfl, Ix.none _, below_set5 hb hg, fun _ _ h => absurd rfl h⟩
/-- the new index is stored into the cell of the result, and handed back -/
theorem Va.ret {w U : World} {g1 g2 : Nat} {bx : Array Value} {t : T} {p A : Option Addr} {c : Nat} {xs : List S.Sp} {r : List (Int × Bool)} (h : Va w U g1 g2 bx t p) (hs : Ls (sz r) t) (hset : IsSet r xs) (hrd : S.Rd U U.heap.size A xs) (hf : Far g1 A xs) (hc : xs.length ≤ c) (hv : Vr r) (hall : ∀ g, g < w.heap.size → Far g A xs) :
    IxE (r, 0) w (.returned (.tuple #[.agg #[.int .i64 t.count, .int .i64 t.total, .int .i64 t.depth, .pointer p, .slice A xs.length c], .int .i64 0]))
      (((((U.setCell ⟨g1, 0, none⟩ (.int .i64 t.count)).setCell ⟨g1, 1, none⟩ (.int .i64 t.total)).setCell ⟨g1, 2, none⟩ (.int .i64 t.depth)).setCell ⟨g1, 3, none⟩ (.pointer p)).setCell ⟨g1, 4, none⟩ (.slice A xs.length c)) :=
  ⟨t, p, A, c, xs, rfl, ⟨h.nd.set5 h.rm, hs, rd_set5 hrd hf, hset, hc, hv⟩, below_set5 h.u (Nat.le_of_lt h.d1), hall⟩

set_option maxRecDepth 100000 in
set_option maxHeartbeats 4000000 in
theorem rm_bad {w : World} {r : List (Int × Bool)} {t : T} {p A : Option Addr} {c : Nat} {xs : List S.Sp} (h : Ix w r t p A c xs) (i n : Int) (hi : i ≤ 9223372036854775807) (hp : partE r.length i n = 4) :
    Calls Try.prog 22 #[.agg #[.int .i64 t.count, .int .i64 t.total, .int .i64 t.depth, .pointer p, .slice A xs.length c], .int .i64 i, .int .i64 n] w (IxE ([], 4) w) := by
  have hb2 := below_two w (.cells #[.int .i64 t.count, .int .i64 t.total, .int .i64 t.depth, .pointer p, .slice A xs.length c] 32) (.cells #[.int .i64 0, .int .i64 0, .int .i64 0, .pointer none, .slice none 0 0] 32)
  obtain ⟨q1, q2⟩ := two_heap w (.cells #[.int .i64 t.count, .int .i64 t.total, .int .i64 t.depth, .pointer p, .slice A xs.length c] 32) (.cells #[.int .i64 0, .int .i64 0, .int .i64 0, .pointer none, .slice none 0 0] 32)
  obtain ⟨x0, x1, x2, x3, x4⟩ := box5 q1
  have HI := h.next hb2
  have hk := rem_any i n HI.nd HI.ls.bal HI.ok hi
  rw [HI.ls.list, remI_sz] at hk
  unfold remI at hk
  rw [if_neg (by rw [hp]; decide)] at hk
  have HK := Lib.hid hk
  have HB := Lib.hid hb2
  have HR : Hid (Room5 _ (w.heap.size + 1)) := Lib.hid ⟨_, _, _, _, _, q2⟩
  clear h hb2 q1 q2 HI hk hp
  go_enter Try.func22, Try.ntmps22
  go_wp2_with fail
  refine HK.out.mono ?_
  rintro e w1 ⟨t2, p2, _, rfl, _, kk⟩
  have bn := below_new w1 (.cells #[.int .i64 t2.count, .int .i64 t2.total, .int .i64 t2.depth, .pointer p2] 29)
  have HB1 := Lib.hid ((HB.out.trans (kk.mono HB.out.size)).trans (bn.mono (HB.out.trans (kk.mono HB.out.size)).size))
  have HR1 := Lib.hid ((HR.out.keep kk).keep bn)
  clear kk bn HB HR HK x0 x1 x2 x3 x4
  obtain ⟨v0, v1, v2, v3, v4, c0, c1, c2, c3, c4, f0, f1, f2, f3, f4⟩ := HR1.out.open_
  go_wp2_with fail
  exact bodyPost_ret (res_ix_err (t := 6) (u := 7) rfl (g := w.heap.size + 1) rfl (heap_set5 HR1.out)) rfl (ixe_err HB1.out (Nat.le_succ _))
set_option maxRecDepth 100000 in
set_option maxHeartbeats 8000000 in
theorem rm_ok {w : World} {r : List (Int × Bool)} {t : T} {p A : Option Addr} {c : Nat} {xs : List S.Sp} (h : Ix w r t p A c xs) (i n : Nat) (hp : i + n ≤ r.length) :
    Calls Try.prog 22 #[.agg #[.int .i64 t.count, .int .i64 t.total, .int .i64 t.depth, .pointer p, .slice A xs.length c], .int .i64 i, .int .i64 n] w (IxE (r.take i ++ r.drop (i + n), 0) w) := by
  have hrl := h.vr.len
  have hb2 := below_two w (.cells #[.int .i64 t.count, .int .i64 t.total, .int .i64 t.depth, .pointer p, .slice A xs.length c] 32) (.cells #[.int .i64 0, .int .i64 0, .int .i64 0, .pointer none, .slice none 0 0] 32)
  obtain ⟨q1, q2⟩ := two_heap w (.cells #[.int .i64 t.count, .int .i64 t.total, .int .i64 t.depth, .pointer p, .slice A xs.length c] 32) (.cells #[.int .i64 0, .int .i64 0, .int .i64 0, .pointer none, .slice none 0 0] 32)
  obtain ⟨x0, x1, x2, x3, x4⟩ := box5 q1
  have HI := h.next hb2
  have hk := rem_any (i : Int) (n : Int) HI.nd HI.ls.bal HI.ok (by omega)
  have hpe : partE r.length (i : Int) (n : Int) = 0 := by unfold partE; rw [if_neg (by omega)]
  have hvr := remI_vr h.vr (i : Int) (n : Int)
  rw [HI.ls.list, remI_sz] at hk
  unfold remI at hk hvr
  rw [if_pos hpe] at hk hvr
  simp only [Int.toNat_natCast] at hk hvr
  have HK := Lib.hid hk
  have HVR := Lib.hid hvr
  have HB := Lib.hid hb2
  have HQ1 := Lib.hid q1
  have HR : Hid (Room5 _ (w.heap.size + 1)) := Lib.hid ⟨_, _, _, _, _, q2⟩
  have HS := Lib.hid (show ∀ U, Below w.heap.size w U → Calls Try.prog 41 #[.slice A xs.length c, .int .i64 i, .int .i64 n] U (SetE (r.take i ++ r.drop (i + n)) U) from fun U k => sRem h.set ((h.rd.below k).more k.size) hrl i n hp)
  clear h hb2 q1 q2 HI hk hpe hvr
  go_enter Try.func22, Try.ntmps22
  go_wp2_with fail
  refine HK.out.mono ?_
  rintro e w1 ⟨t2, p2, hs2, rfl, hn2, kk⟩
  have bn := below_new w1 (.cells #[.int .i64 t2.count, .int .i64 t2.total, .int .i64 t2.depth, .pointer p2] 29)
  have VA : Hid (Va w _ (w.heap.size + 1) w1.heap.size #[.int .i64 t.count, .int .i64 t.total, .int .i64 t.depth, .pointer p, .slice A xs.length c] t2 p2) := Lib.hid
    ⟨keep_heap bn (keep_heap kk HQ1.out), heap_alloc_new w1 _, hn2.below bn, (HR.out.keep kk).keep bn, (HB.out.trans (kk.mono HB.out.size)).trans (bn.mono (HB.out.trans (kk.mono HB.out.size)).size), Nat.lt_succ_self _, by
      obtain ⟨_, _, _, _, _, hr⟩ := HR.out.keep kk
      exact heap_lt hr⟩
  have HLS := Lib.hid hs2
  clear kk bn HB HR HK HQ1 hs2 hn2 x0 x1 x2 x3 x4
  go_upto_region 4 with fail
  obtain ⟨W2, hW2⟩ : ∃ W, w1.alloc (.cells #[.int .i64 t2.count, .int .i64 t2.total, .int .i64 t2.depth, .pointer p2] 29) = W := ⟨_, rfl⟩
  obtain ⟨g2, hg2⟩ : ∃ g, w1.heap.size = g := ⟨_, rfl⟩
  rw [hW2] at VA ⊢
  rw [hg2] at VA ⊢
  clear hW2 hg2
  obtain ⟨P, hP⟩ : ∃ P : World → Prop, (fun U => Va w U (w.heap.size + 1) g2 #[.int .i64 t.count, .int .i64 t.total, .int .i64 t.depth, .pointer p, .slice A xs.length c] t2 p2) = P := ⟨_, rfl⟩
  have hP0 : P W2 := by rw [← hP]; exact VA.out
  have PC := Lib.hid (show ∀ U, P U → (P U ∧ U.cell? ⟨g2, 0, none⟩ = some (.int .i64 t2.count) ∧ U.cell? ⟨g2, 1, none⟩ = some (.int .i64 t2.total) ∧ U.cell? ⟨g2, 2, none⟩ = some (.int .i64 t2.depth) ∧ U.cell? ⟨g2, 3, none⟩ = some (.pointer p2) ∧ U.cell? ⟨w.heap.size, 4, none⟩ = some (.slice A xs.length c)) from fun U h => by
    have h' := h
    rw [← hP] at h'
    exact ⟨h, (rc_cells h'.var).1, (rc_cells h'.var).2.1, (rc_cells h'.var).2.2.1, (rc_cells h'.var).2.2.2, (box5 h'.box).2.2.2.2⟩)
  have PN := Lib.hid (show ∀ U U', P U → Below U.heap.size U U' → P U' from fun U U' h kk => by
    rw [← hP] at h ⊢
    exact h.next kk)
  have PS := Lib.hid (show ∀ U a0 a1 a2 a3 a4, P U → P (((((U.setCell ⟨w.heap.size + 1, 0, none⟩ a0).setCell ⟨w.heap.size + 1, 1, none⟩ a1).setCell ⟨w.heap.size + 1, 2, none⟩ a2).setCell ⟨w.heap.size + 1, 3, none⟩ a3).setCell ⟨w.heap.size + 1, 4, none⟩ a4) from fun U a0 a1 a2 a3 a4 h => by
    rw [← hP] at h ⊢
    exact h.set5 _ _ _ _ _)
  have PV := Lib.hid (show ∀ U, P U → Va w U (w.heap.size + 1) g2 #[.int .i64 t.count, .int .i64 t.total, .int .i64 t.depth, .pointer p, .slice A xs.length c] t2 p2 from fun U h => by
    rw [← hP] at h
    exact h)
  have HP0 := Lib.hid (PN.out _ _ hP0 (drew_below W2))
  clear hP hP0 VA
  go_region_held3 (fun U => P U ∧ U.cell? ⟨g2, 0, none⟩ = some (.int .i64 t2.count) ∧ U.cell? ⟨g2, 1, none⟩ = some (.int .i64 t2.total) ∧ U.cell? ⟨g2, 2, none⟩ = some (.int .i64 t2.depth) ∧ U.cell? ⟨g2, 3, none⟩ = some (.pointer p2) ∧ U.cell? ⟨w.heap.size, 4, none⟩ = some (.slice A xs.length c))
    (first
      | with_reducible exact PC.out _ HP0.out
      | with_reducible exact PC.out _ hp1.out
      | with_reducible exact PC.out _ (PS.out _ _ _ _ _ _ hp1.out)
      | (trace_state; fail))
    (first
      | (go_at_call 41; refine (HS.out _ (PV.out _ HP0.out).u).mono ?_; rintro e w3 ⟨A3, out, rfl, hset3, hrd3, hfr3, k1⟩; have hp1 := Lib.hid (PN.out _ _ HP0.out k1); have hfar : Hid (Far (w.heap.size + 1) A3 out) := Lib.hid (far_new hfr3 (PV.out _ HP0.out).lt); have hall : Hid (∀ g, g < w.heap.size → Far g A3 out) := Lib.hid (fun g hg => far_new hfr3 (Nat.lt_of_lt_of_le hg (PV.out _ HP0.out).u.size)); have hset := Lib.hid hset3; have hrd := Lib.hid hrd3; clear hset3 hrd3 hfr3; obtain ⟨v0, v1, v2, v3, v4, c0, c1, c2, c3, c4, f0, f1, f2, f3, f4⟩ := (PV.out _ hp1.out).rm.open_)
      | (go_at_call 37; refine (sure_any _ _ _ _ _).mono ?_; rintro e w4 ⟨rfl, rfl⟩))
  all_goals (
    go_wp2_with fail
    exact bodyPost_ret (res_ix_err (t := 6) (u := 7) rfl (g := w.heap.size + 1) rfl (heap_set5 (PV.out _ hp1.out).rm)) rfl ((PV.out _ hp1.out).ret HLS.out hset.out hrd.out hfar.out (Nat.le_refl _) HVR.out hall.out))
theorem rm_any {w : World} {r : List (Int × Bool)} {t : T} {p A : Option Addr} {c : Nat} {xs : List S.Sp} (h : Ix w r t p A c xs) (i n : Int) (hi : i ≤ 9223372036854775807) :
    Calls Try.prog 22 #[.agg #[.int .i64 t.count, .int .i64 t.total, .int .i64 t.depth, .pointer p, .slice A xs.length c], .int .i64 i, .int .i64 n] w (IxE (remI r i n) w) := by
  unfold remI
  rcases partE_two r.length i n with hp | hp
  · rw [if_pos hp]
    obtain ⟨a, m, rfl, rfl, ham⟩ := part_nat hp
    exact rm_ok h a m ham
  · rw [if_neg (by rw [hp]; decide)]
    exact rm_bad h i n hi hp
end Go.Proofs.Ytdejdnkkbpmmlaa
