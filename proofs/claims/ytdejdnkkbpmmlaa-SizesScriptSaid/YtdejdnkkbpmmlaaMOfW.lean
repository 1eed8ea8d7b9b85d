/- The walk of I's Of: an index of rows. -/
import Derived.Test.YtdejdnkkbpmmlaaMI8W
namespace Go.Proofs.Ytdejdnkkbpmmlaa
open Go.RowKit

/-- ahead of each round: the index of the first rows lies in its variable -/
structure OfI (w wr : World) (g1 g3 : Nat) (r : List (Int × Bool)) (j : Nat) (SA : Option Addr) (t : T) (p A : Option Addr) (c : Nat) (xs : List S.Sp) : Prop where
  ix : Ix wr (r.take j) t p A c xs
  bx : wr.heap[g3]? = some (.cells #[.int .i64 t.count, .int .i64 t.total, .int .i64 t.depth, .pointer p, .slice A xs.length c] 32 (0, 0))
  rm : Room5 wr g1
  rd : RdR wr g3 SA r
  u : Below w.heap.size w wr
  h1 : w.heap.size ≤ g1
  h3 : g1 < g3
  fr : Far g1 A xs
theorem OfI.next {w wr W' : World} {g1 g3 : Nat} {r : List (Int × Bool)} {j : Nat} {SA : Option Addr} {t : T} {p A : Option Addr} {c : Nat} {xs : List S.Sp} (h : OfI w wr g1 g3 r j SA t p A c xs) (kk : Below wr.heap.size wr W') : OfI w W' g1 g3 r j SA t p A c xs :=
  ⟨h.ix.next kk, keep_heap kk h.bx, h.rm.keep kk, h.rd.below (kk.mono (Nat.le_of_lt (heap_lt h.bx))), h.u.trans (kk.mono h.u.size), h.h1, h.h3, h.fr⟩
theorem OfI.set5 {w U : World} {g1 g3 g6 : Nat} {r : List (Int × Bool)} {j : Nat} {SA : Option Addr} {t : T} {p A : Option Addr} {c : Nat} {xs : List S.Sp} (h : OfI w U g1 g3 r j SA t p A c xs) (hr : Room5 U g6) (h6 : g3 < g6) (hf : Far g6 A xs) (a0 a1 a2 a3 a4 : Value) :
    OfI w (((((U.setCell ⟨g6, 0, none⟩ a0).setCell ⟨g6, 1, none⟩ a1).setCell ⟨g6, 2, none⟩ a2).setCell ⟨g6, 3, none⟩ a3).setCell ⟨g6, 4, none⟩ a4) g1 g3 r j SA t p A c xs :=
  ⟨⟨h.ix.nd.set5 hr, h.ix.ls, rd_set5 h.ix.rd hf, h.ix.set, h.ix.cap, h.ix.vr⟩, far_set5 (Nat.ne_of_lt h6) h.bx, by
    obtain ⟨_, _, _, _, _, hh⟩ := h.rm
    exact ⟨_, _, _, _, _, far_set5 (Nat.ne_of_lt (Nat.lt_trans h.h3 h6)) hh⟩, fun k hk => by
    obtain ⟨b, o, e, h1, h2, h3⟩ := h.rd k hk
    exact ⟨b, o, e, h1, cell_set5 (p := ⟨b, _, none⟩) (Nat.ne_of_lt (Nat.lt_trans h1 h6)) h2, cell_set5 (p := ⟨b, _, none⟩) (Nat.ne_of_lt (Nat.lt_trans h1 h6)) h3⟩, below_set5 h.u (Nat.le_trans h.h1 (Nat.le_of_lt (Nat.lt_trans h.h3 h6))), h.h1, h.h3, h.fr⟩
/-- behind the call: the next index lies in its own variable -/
structure Of2 (w U : World) (g1 g3 g6 : Nat) (r : List (Int × Bool)) (j : Nat) (SA : Option Addr) (t : T) (p A : Option Addr) (c : Nat) (xs : List S.Sp) (t2 : T) (p2 A2 : Option Addr) (c2 : Nat) (xs2 : List S.Sp) : Prop where
  m : OfI w U g1 g3 r j SA t p A c xs
  ix : Ix U (r.take (j + 1)) t2 p2 A2 c2 xs2
  bx : U.heap[g6]? = some (.cells #[.int .i64 t2.count, .int .i64 t2.total, .int .i64 t2.depth, .pointer p2, .slice A2 xs2.length c2] 32 (0, 0))
  f1 : Far g1 A2 xs2
  f3 : Far g3 A2 xs2
/-- it takes the place of the elder one -/
theorem Of2.take {w U : World} {g1 g3 g6 : Nat} {r : List (Int × Bool)} {j : Nat} {SA : Option Addr} {t : T} {p A : Option Addr} {c : Nat} {xs : List S.Sp} {t2 : T} {p2 A2 : Option Addr} {c2 : Nat} {xs2 : List S.Sp} (h : Of2 w U g1 g3 g6 r j SA t p A c xs t2 p2 A2 c2 xs2) :
    OfI w (((((U.setCell ⟨g3, 0, none⟩ (.int .i64 t2.count)).setCell ⟨g3, 1, none⟩ (.int .i64 t2.total)).setCell ⟨g3, 2, none⟩ (.int .i64 t2.depth)).setCell ⟨g3, 3, none⟩ (.pointer p2)).setCell ⟨g3, 4, none⟩ (.slice A2 xs2.length c2)) g1 g3 r (j + 1) SA t2 p2 A2 c2 xs2 :=
  have hr : Room5 U g3 := ⟨_, _, _, _, _, h.m.bx⟩
  ⟨⟨h.ix.nd.set5 hr, h.ix.ls, rd_set5 h.ix.rd h.f3, h.ix.set, h.ix.cap, h.ix.vr⟩, heap_set5 hr, by
    obtain ⟨_, _, _, _, _, hh⟩ := h.m.rm
    exact ⟨_, _, _, _, _, far_set5 (Nat.ne_of_lt h.m.h3) hh⟩, fun k hk => by
    obtain ⟨b, o, e, h1, h2, h3⟩ := h.m.rd k hk
    exact ⟨b, o, e, h1, cell_set5 (p := ⟨b, _, none⟩) (Nat.ne_of_lt h1) h2, cell_set5 (p := ⟨b, _, none⟩) (Nat.ne_of_lt h1) h3⟩, below_set5 h.m.u (Nat.le_trans h.m.h1 (Nat.le_of_lt h.m.h3)), h.m.h1, h.m.h3, h.f1⟩
theorem vr_take {r : List (Int × Bool)} (h : Vr r) (j : Nat) : Vr (r.take j) := by
  refine ⟨?_, ?_, fun x hx => ?_⟩
  · rw [sz_take]
    exact vd_sub h.vd (fun _ hx => List.mem_of_mem_take hx) (by rw [List.length_take]; omega) (sum_sub (List.take_sublist _ _) h.vd.ok.nn)
  · rw [List.length_take]; have := h.len; omega
  · rw [sz_take] at hx
    exact h.pos x (List.mem_of_mem_take hx)
theorem of_step {r : List (Int × Bool)} (hv : Vr r) {j : Nat} (hj : j < r.length) : insI (r.take j) (j : Int) [r[j].1] r[j].2 = (r.take (j + 1), 0) := by
  have hl := hv.len
  have htl : (r.take j).length = j := by rw [List.length_take]; omega
  have hm : r[j].1 ∈ sz r := by rw [← sz_get hj]; exact List.getElem_mem _
  have h1 := hv.pos _ hm
  have h2 := hv.vd.hi1 _ hm
  have h3 := (vr_take hv (j + 1)).vd.ok.sum
  have e : r.take (j + 1) = r.take j ++ [r[j]] := List.take_succ_eq_append_getElem hj
  rw [e, sz_app] at h3
  have e1 : sz [r[j]] = [r[j].1] := rfl
  rw [e1, List.sum_append] at h3
  simp only [List.sum_cons, List.sum_nil] at h3
  unfold insI
  rw [htl, if_pos (by unfold partE; rw [if_neg (by omega)]), if_neg (by simp; omega), if_pos (by rw [chk1_one, if_neg (by omega)]), if_pos (by
    unfold joinE
    rw [sz_len, htl, if_neg (by simp; omega), if_neg (by simp; omega)])]
  rw [e, Int.toNat_natCast, List.take_of_length_le (by omega), List.drop_of_length_le (by omega)]
  rw [List.append_nil]
  rfl
set_option maxRecDepth 100000 in
set_option maxHeartbeats 16000000 in
theorem of_loop (A : Option Addr) (c : Nat) (us : List Nat) (g : Bool) (w : World) (hr : RdU w w.heap.size A us) (hl : us.length ≤ c) (hm : c ≤ 9223372036854775807) :
    Calls Try.prog 9 #[.agg #[.slice A us.length c, .bool g]] w fun e w' => ∃ (t : T) (p A' : Option Addr) (c' : Nat) (xs : List S.Sp), e = .returned (.agg #[.int .i64 t.count, .int .i64 t.total, .int .i64 t.depth, .pointer p, .slice A' xs.length c']) ∧ Ix w' (rof us g) t p A' c' xs ∧ Below w.heap.size w w' := by
  have hb2 := below_two w (.cells #[.slice A us.length c, .bool g] 24) (.cells #[.int .i64 0, .int .i64 0, .int .i64 0, .pointer none, .slice none 0 0] 32)
  obtain ⟨q1, q2⟩ := two_heap w (.cells #[.slice A us.length c, .bool g] 24) (.cells #[.int .i64 0, .int .i64 0, .int .i64 0, .pointer none, .slice none 0 0] 32)
  have HRW := Lib.hid (rows_loop A c us g ((w.alloc (.cells #[.slice A us.length c, .bool g] 24)).alloc (.cells #[.int .i64 0, .int .i64 0, .int .i64 0, .pointer none, .slice none 0 0] 32)) (fun k hk => by
    obtain ⟨b, o, e, h1, h2, h3⟩ := hr.below hb2 k hk
    exact ⟨b, o, e, Nat.lt_of_lt_of_le h1 hb2.size, h2, h3⟩) hl hm)
  have HVR := Lib.hid (rof_vr us g)
  have HB := Lib.hid hb2
  have HRM : Hid (Room5 _ (w.heap.size + 1)) := Lib.hid ⟨_, _, _, _, _, q2⟩
  have y0 := cell_of_row _ w.heap.size 0 _ 24 (0, 0) q1
  have y1 := cell_of_row _ w.heap.size 1 _ 24 (0, 0) q1
  clear hr hb2 q1 q2 hl hm
  generalize rof us g = r at *
  go_enter Try.func9, Try.ntmps9
  go_wp2_with fail
  refine HRW.out.mono ?_
  rintro e w1 ⟨SA, sc, rfl, hsl, kk⟩
  have HB1 := Lib.hid (HB.out.trans (kk.mono HB.out.size))
  have HRM1 := Lib.hid (HRM.out.keep kk)
  have HSL := Lib.hid hsl
  clear kk hsl HRW HB HRM y0 y1
  go_wp2_with fail
  refine (new_any _).mono ?_
  rintro e w2 ⟨rfl, kk⟩
  have bn := below_new w2 (.cells #[.int .i64 0, .int .i64 0, .int .i64 0, .pointer none, .slice none 0 0] 32)
  have hub := HB1.out.trans (kk.mono HB1.out.size)
  have M0 := Lib.hid (show OfI w (w2.alloc (.cells #[.int .i64 0, .int .i64 0, .int .i64 0, .pointer none, .slice none 0 0] 32)) (w.heap.size + 1) w2.heap.size r 0 SA .nil none none 0 [] from ⟨Ix.none _, heap_alloc_new w2 _, (HRM1.out.keep kk).keep bn, ((HSL.out.below kk).rd).below bn, hub.trans (bn.mono hub.size), Nat.le_succ _, by
    obtain ⟨_, _, _, _, _, hh⟩ := HRM1.out.keep kk
    exact heap_lt hh, fun h => absurd rfl h⟩)
  clear kk bn hub HB1 HRM1 HSL
  go_upto_region 3 with fail
  obtain ⟨W2, hW2⟩ : ∃ W, w2.alloc (.cells #[.int .i64 0, .int .i64 0, .int .i64 0, .pointer none, .slice none 0 0] 32) = W := ⟨_, rfl⟩
  obtain ⟨g3, hg3⟩ : ∃ g, w2.heap.size = g := ⟨_, rfl⟩
  rw [hW2] at M0 ⊢
  rw [hg3] at M0 ⊢
  clear hW2 hg3
  go_wp2_with fail
  go_loopw [5, 6, 7] (fun k _ _ wr => ∃ (j : Nat) (t : T) (p A : Option Addr) (c : Nat) (xs : List S.Sp), j ≤ r.length ∧ k = .int .i64 j ∧ Hid (OfI w wr (w.heap.size + 1) g3 r j SA t p A c xs)) (fun k _ _ _ => r.length - (intOf k).toNat)
  case atStart => exact ⟨0, .nil, none, none, 0, [], Nat.zero_le _, rfl, M0⟩
  case round =>
    clear M0
    obtain ⟨j, t, p, A, c, xs, hj, rfl, MJ⟩ := hrel
    by_cases hlt : j < r.length
    · obtain ⟨x0, x1, x2, x3, x4⟩ := box5 MJ.out.bx
      obtain ⟨b, o, rfl, hb, c0, c1⟩ := MJ.out.rd j hlt
      have HWJ : Hid (wrap64 ((j : Int) + 1) = ((j + 1 : Nat) : Int)) := Lib.hid (by have := HVR.out.len; rw [wrap_small (by omega) (by omega)]; omega)
      have hst := of_step HVR.out hlt
      obtain ⟨⟨z, kb⟩, hz⟩ : ∃ x, r[j] = x := ⟨_, rfl⟩
      rw [hz] at c0 c1 hst
      simp only at c0 c1 hst
      go_upto_region 6 with fail
      obtain ⟨P, hP⟩ : ∃ P : World → Prop, (fun U => OfI w U (w.heap.size + 1) g3 r j (some ⟨b, o, none⟩) t p A c xs) = P := ⟨_, rfl⟩
      have hP0 : P wr := by rw [← hP]; exact MJ.out
      have PC := Lib.hid (show ∀ U, P U → (P U ∧ U.cell? ⟨g3, 0, none⟩ = some (.int .i64 t.count) ∧ U.cell? ⟨g3, 1, none⟩ = some (.int .i64 t.total) ∧ U.cell? ⟨g3, 2, none⟩ = some (.int .i64 t.depth) ∧ U.cell? ⟨g3, 3, none⟩ = some (.pointer p) ∧ U.cell? ⟨g3, 4, none⟩ = some (.slice A xs.length c) ∧ U.cell? ⟨b, o + j * 2, none⟩ = some (.int .i64 z) ∧ U.cell? ⟨b, o + j * 2 + 1, none⟩ = some (.bool kb)) from fun U h => by
        have h' := h
        rw [← hP] at h'
        obtain ⟨x0, x1, x2, x3, x4⟩ := box5 h'.bx
        obtain ⟨b', o', e', _, d0, d1⟩ := h'.rd j hlt
        injection e' with e'
        injection e' with e1 e2
        subst e1; subst e2
        rw [hz] at d0 d1
        exact ⟨h, x0, x1, x2, x3, x4, d0, d1⟩)
      have PN := Lib.hid (show ∀ U U', P U → Below U.heap.size U U' → P U' from fun U U' h kk => by
        rw [← hP] at h ⊢
        exact h.next kk)
      have PV := Lib.hid (show ∀ U, P U → OfI w U (w.heap.size + 1) g3 r j (some ⟨b, o, none⟩) t p A c xs from fun U h => by
        rw [← hP] at h
        exact h)
      have HP0 := Lib.hid (PN.out _ _ hP0 (drew_below wr))
      have PS := Lib.hid (show ∀ U g6, P U → Room5 U g6 → g3 < g6 → wr.heap.size ≤ g6 → ∀ a0 a1 a2 a3 a4, P (((((U.setCell ⟨g6, 0, none⟩ a0).setCell ⟨g6, 1, none⟩ a1).setCell ⟨g6, 2, none⟩ a2).setCell ⟨g6, 3, none⟩ a3).setCell ⟨g6, 4, none⟩ a4) from fun U g6 h hr h1 h2 a0 a1 a2 a3 a4 => by
        rw [← hP] at h ⊢
        exact h.set5 hr h1 (far_rd (MJ.out.ix.rd.more h2)) a0 a1 a2 a3 a4)
      have hfo : ∀ g, wr.heap.size ≤ g → Far g A xs := fun g hg => far_rd (MJ.out.ix.rd.more hg)
      have HFO := Lib.hid hfo
      have hg3 : g3 < wr.heap.size := heap_lt MJ.out.bx
      have b1 := below_new wr (.cells #[.int .i64 z] 2)
      have b2 := below_two wr (.cells #[.int .i64 z] 2) (.cells #[.int .i64 0, .int .i64 0, .int .i64 0, .pointer none, .slice none 0 0] 32)
      have b3 := below_two wr (.cells #[.int .i64 0, .int .i64 0, .int .i64 0, .pointer none, .slice none 0 0] 32) (.cells #[.int .i64 z] 2)
      have HP1 : Hid (P ((wr.alloc (.cells #[.int .i64 z] 2)).drew)) := Lib.hid (PN.out _ _ (PN.out _ _ hP0 b1) (drew_below _))
      have HP2 : Hid (P (((wr.alloc (.cells #[.int .i64 z] 2)).alloc (.cells #[.int .i64 0, .int .i64 0, .int .i64 0, .pointer none, .slice none 0 0] 32)).drew)) := Lib.hid (PN.out _ _ (PN.out _ _ hP0 b2) (drew_below _))
      have HP3 : Hid (P (((wr.alloc (.cells #[.int .i64 0, .int .i64 0, .int .i64 0, .pointer none, .slice none 0 0] 32)).alloc (.cells #[.int .i64 z] 2)).drew)) := Lib.hid (PN.out _ _ (PN.out _ _ hP0 b3) (drew_below _))
      have HPZ : Hid (P ((wr.alloc (.cells #[.int .i64 0, .int .i64 0, .int .i64 0, .pointer none, .slice none 0 0] 32)).drew)) := Lib.hid (PN.out _ _ (PN.out _ _ hP0 (below_new wr _)) (drew_below _))
      have HIN := Lib.hid (show ∀ U L, P U → RdI U U.heap.size L [z] → Calls Try.prog 20 #[.agg #[.int .i64 t.count, .int .i64 t.total, .int .i64 t.depth, .pointer p, .slice A xs.length c], .int .i64 j, .slice L 1 1, .bool kb] U (IxE (r.take (j + 1), 0) U) from fun U L hU hL => by
        have hin := in_any (PV.out _ hU).ix (j : Int) kb (SA := L) (d := 1) (s := [z]) hL (by simp) (by omega)
        rw [hst] at hin
        exact hin)
      have HL1 : Hid (RdI ((wr.alloc (.cells #[.int .i64 z] 2)).drew) ((wr.alloc (.cells #[.int .i64 z] 2)).drew).heap.size (some ⟨wr.heap.size, 0, none⟩) [z]) := Lib.hid (RdI_one wr z)
      have HL2 : Hid (RdI (((wr.alloc (.cells #[.int .i64 z] 2)).alloc (.cells #[.int .i64 0, .int .i64 0, .int .i64 0, .pointer none, .slice none 0 0] 32)).drew) (((wr.alloc (.cells #[.int .i64 z] 2)).alloc (.cells #[.int .i64 0, .int .i64 0, .int .i64 0, .pointer none, .slice none 0 0] 32)).drew).heap.size (some ⟨wr.heap.size, 0, none⟩) [z]) := Lib.hid (((RdI_one wr z).next (below_new _ (.cells #[.int .i64 0, .int .i64 0, .int .i64 0, .pointer none, .slice none 0 0] 32))).next (drew_below _))
      have HL3 : Hid (RdI (((wr.alloc (.cells #[.int .i64 0, .int .i64 0, .int .i64 0, .pointer none, .slice none 0 0] 32)).alloc (.cells #[.int .i64 z] 2)).drew) (((wr.alloc (.cells #[.int .i64 0, .int .i64 0, .int .i64 0, .pointer none, .slice none 0 0] 32)).alloc (.cells #[.int .i64 z] 2)).drew).heap.size (some ⟨wr.heap.size + 1, 0, none⟩) [z]) := Lib.hid (by have := RdI_one (wr.alloc (.cells #[.int .i64 0, .int .i64 0, .int .i64 0, .pointer none, .slice none 0 0] 32)) z; rw [show (wr.alloc (.cells #[.int .i64 0, .int .i64 0, .int .i64 0, .pointer none, .slice none 0 0] 32)).heap.size = wr.heap.size + 1 from Array.size_push ..] at this; exact this.next (drew_below _))
      have HQ2 : Hid (Room5 (((wr.alloc (.cells #[.int .i64 z] 2)).alloc (.cells #[.int .i64 0, .int .i64 0, .int .i64 0, .pointer none, .slice none 0 0] 32)).drew) (wr.heap.size + 1)) := Lib.hid ⟨_, _, _, _, _, (two_heap wr (.cells #[.int .i64 z] 2) (.cells #[.int .i64 0, .int .i64 0, .int .i64 0, .pointer none, .slice none 0 0] 32)).2⟩
      have HQ3 : Hid (Room5 (((wr.alloc (.cells #[.int .i64 0, .int .i64 0, .int .i64 0, .pointer none, .slice none 0 0] 32)).alloc (.cells #[.int .i64 z] 2)).drew) wr.heap.size) := Lib.hid ⟨_, _, _, _, _, (two_heap wr (.cells #[.int .i64 0, .int .i64 0, .int .i64 0, .pointer none, .slice none 0 0] 32) (.cells #[.int .i64 z] 2)).1⟩
      have hs1 : g3 < ((wr.alloc (.cells #[.int .i64 z] 2)).drew).heap.size := Nat.lt_of_lt_of_le hg3 b1.size
      have hs2 : wr.heap.size + 1 < (((wr.alloc (.cells #[.int .i64 z] 2)).alloc (.cells #[.int .i64 0, .int .i64 0, .int .i64 0, .pointer none, .slice none 0 0] 32)).drew).heap.size := by obtain ⟨_, _, _, _, _, hh⟩ := HQ2.out; exact heap_lt hh
      have hs3 : wr.heap.size < (((wr.alloc (.cells #[.int .i64 0, .int .i64 0, .int .i64 0, .pointer none, .slice none 0 0] 32)).alloc (.cells #[.int .i64 z] 2)).drew).heap.size := by obtain ⟨_, _, _, _, _, hh⟩ := HQ3.out; exact heap_lt hh
      have HS1 := Lib.hid hs1
      have HS2 := Lib.hid hs2
      have HS3 := Lib.hid hs3
      have hh1 := MJ.out.h3
      clear hP hP0 MJ hst hz x0 x1 x2 x3 x4 c0 c1 b1 b2 b3 hfo hs1 hs2 hs3
      go_cut [6, 7] (fun s6 s7 wx => ∃ (g6 : Nat) (t2 : T) (p2 A2 : Option Addr) (c2 : Nat) (xs2 : List S.Sp), s6 = .pointer (some ⟨g6, 0, none⟩) ∧ s7 = .int .i64 0 ∧ Hid (Of2 w wx (w.heap.size + 1) g3 g6 r j (some ⟨b, o, none⟩) t p A c xs t2 p2 A2 c2 xs2))
      case first =>
       as_aux_lemma =>
        go_region_held3 (fun U => P U ∧ U.cell? ⟨g3, 0, none⟩ = some (.int .i64 t.count) ∧ U.cell? ⟨g3, 1, none⟩ = some (.int .i64 t.total) ∧ U.cell? ⟨g3, 2, none⟩ = some (.int .i64 t.depth) ∧ U.cell? ⟨g3, 3, none⟩ = some (.pointer p) ∧ U.cell? ⟨g3, 4, none⟩ = some (.slice A xs.length c) ∧ U.cell? ⟨b, o + j * 2, none⟩ = some (.int .i64 z) ∧ U.cell? ⟨b, o + j * 2 + 1, none⟩ = some (.bool kb))
          (first
            | with_reducible exact PC.out _ HP0.out
            | with_reducible exact PC.out _ HP1.out
            | with_reducible exact PC.out _ HP2.out
            | with_reducible exact PC.out _ HP3.out
            | with_reducible exact PC.out _ HPZ.out
            | with_reducible exact PC.out _ hp2.out
            | with_reducible exact PC.out _ (PN.out _ _ hp2.out (below_new _ _))
            | with_reducible exact PC.out _ (hps.out _ _ _ _ _)
            | fail)
          (first
            | (go_at_call 20; (with_reducible refine (HIN.out _ _ HP1.out HL1.out).mono ?_); rintro e w4 ⟨t2, p2, A2, c2, xs2, rfl, hix, kk, hfar⟩; have hp2 := Lib.hid (PN.out _ _ HP1.out kk); have HX2 := Lib.hid hix; have hfin := Lib.hid (show Of2 w (w4.alloc (.cells #[.int .i64 t2.count, .int .i64 t2.total, .int .i64 t2.depth, .pointer p2, .slice A2 xs2.length c2] 32)) (w.heap.size + 1) g3 w4.heap.size r j (some ⟨b, o, none⟩) t p A c xs t2 p2 A2 c2 xs2 from ⟨(PV.out _ hp2.out).next (below_new _ _), hix.next (below_new _ _), heap_alloc_new w4 _, hfar _ (Nat.lt_trans hh1 HS1.out), hfar _ HS1.out⟩); clear hix hfar kk)
            | (go_at_call 20; (with_reducible refine (HIN.out _ _ HP2.out HL2.out).mono ?_); rintro e w4 ⟨t2, p2, A2, c2, xs2, rfl, hix, kk, hfar⟩; have hp2 := Lib.hid (PN.out _ _ HP2.out kk); have hrm := HQ2.out.keep kk; have hps := Lib.hid (show ∀ a0 a1 a2 a3 a4, P (((((w4.setCell ⟨wr.heap.size + 1, 0, none⟩ a0).setCell ⟨wr.heap.size + 1, 1, none⟩ a1).setCell ⟨wr.heap.size + 1, 2, none⟩ a2).setCell ⟨wr.heap.size + 1, 3, none⟩ a3).setCell ⟨wr.heap.size + 1, 4, none⟩ a4) from PS.out _ _ hp2.out hrm (by omega) (by omega)); have hfin : Hid (Of2 w (((((w4.setCell ⟨wr.heap.size + 1, 0, none⟩ (.int .i64 t2.count)).setCell ⟨wr.heap.size + 1, 1, none⟩ (.int .i64 t2.total)).setCell ⟨wr.heap.size + 1, 2, none⟩ (.int .i64 t2.depth)).setCell ⟨wr.heap.size + 1, 3, none⟩ (.pointer p2)).setCell ⟨wr.heap.size + 1, 4, none⟩ (.slice A2 xs2.length c2)) (w.heap.size + 1) g3 (wr.heap.size + 1) r j (some ⟨b, o, none⟩) t p A c xs t2 p2 A2 c2 xs2) := Lib.hid ⟨(PV.out _ hp2.out).set5 hrm (by omega) (HFO.out _ (by omega)) _ _ _ _ _, ⟨hix.nd.set5 hrm, hix.ls, rd_set5 hix.rd (hfar _ HS2.out), hix.set, hix.cap, hix.vr⟩, heap_set5 hrm, hfar _ (by have := HS2.out; omega), hfar _ (by have := HS2.out; omega)⟩; obtain ⟨v0, v1, v2, v3, v4, d0, d1, d2, d3, d4, f0, f1, f2, f3, f4⟩ := hrm.open_; clear hix hfar kk hrm)
            | (go_at_call 20; (with_reducible refine (HIN.out _ _ HP3.out HL3.out).mono ?_); rintro e w4 ⟨t2, p2, A2, c2, xs2, rfl, hix, kk, hfar⟩; have hp2 := Lib.hid (PN.out _ _ HP3.out kk); have hrm := HQ3.out.keep kk; have hps := Lib.hid (show ∀ a0 a1 a2 a3 a4, P (((((w4.setCell ⟨wr.heap.size, 0, none⟩ a0).setCell ⟨wr.heap.size, 1, none⟩ a1).setCell ⟨wr.heap.size, 2, none⟩ a2).setCell ⟨wr.heap.size, 3, none⟩ a3).setCell ⟨wr.heap.size, 4, none⟩ a4) from PS.out _ _ hp2.out hrm hg3 (Nat.le_refl _)); have hfin : Hid (Of2 w (((((w4.setCell ⟨wr.heap.size, 0, none⟩ (.int .i64 t2.count)).setCell ⟨wr.heap.size, 1, none⟩ (.int .i64 t2.total)).setCell ⟨wr.heap.size, 2, none⟩ (.int .i64 t2.depth)).setCell ⟨wr.heap.size, 3, none⟩ (.pointer p2)).setCell ⟨wr.heap.size, 4, none⟩ (.slice A2 xs2.length c2)) (w.heap.size + 1) g3 wr.heap.size r j (some ⟨b, o, none⟩) t p A c xs t2 p2 A2 c2 xs2) := Lib.hid ⟨(PV.out _ hp2.out).set5 hrm hg3 (HFO.out _ (Nat.le_refl _)) _ _ _ _ _, ⟨hix.nd.set5 hrm, hix.ls, rd_set5 hix.rd (hfar _ HS3.out), hix.set, hix.cap, hix.vr⟩, heap_set5 hrm, hfar _ (by have := HS3.out; omega), hfar _ (by have := HS3.out; omega)⟩; obtain ⟨v0, v1, v2, v3, v4, d0, d1, d2, d3, d4, f0, f1, f2, f3, f4⟩ := hrm.open_; clear hix hfar kk hrm))
        all_goals (
          go_wp2_with fail
          go_meet
          exact ⟨_, t2, p2, A2, c2, xs2, rfl, rfl, hfin⟩)
      case rest =>
       as_aux_lemma =>
        obtain ⟨g6, t2, p2, A2, c2, xs2, rfl, rfl, M2⟩ := hcut
        clear HP0 HP1 HP2 HP3 HPZ HIN HL1 HL2 HL3 HQ2 HQ3 HS1 HS2 HS3 HFO PC PN PV
        obtain ⟨x0, x1, x2, x3, x4⟩ := box5 M2.out.bx
        have hrm : Room5 wc g3 := ⟨_, _, _, _, _, M2.out.m.bx⟩
        obtain ⟨v0, v1, v2, v3, v4, d0, d1, d2, d3, d4, f0, f1, f2, f3, f4⟩ := hrm.open_
        have M3 := Lib.hid M2.out.take
        clear M2 hrm
        have hln := HVR.out.len
        clear HWJ HVR
        go_wp2_with fail
        go_roundw
        case rel => exact ⟨j + 1, t2, p2, A2, c2, xs2, by omega, by go_num, M3⟩
        case measure => simp [intOf]; omega
    · have hjr : j = r.length := by omega
      subst hjr
      obtain ⟨x0, x1, x2, x3, x4⟩ := box5 MJ.out.bx
      have hrm := MJ.out.rm
      obtain ⟨v0, v1, v2, v3, v4, d0, d1, d2, d3, d4, f0, f1, f2, f3, f4⟩ := hrm.open_
      have hix := MJ.out.ix
      rw [List.take_length] at hix
      go_wp2_with fail
      exact bodyPost_ret (res_ix (t := 2) rfl (g := w.heap.size + 1) rfl (heap_set5 hrm)) rfl ⟨t, p, A, c, xs, rfl, ⟨hix.nd.set5 hrm, hix.ls, rd_set5 hix.rd MJ.out.fr, hix.set, hix.cap, hix.vr⟩, below_set5 MJ.out.u (Nat.le_succ _)⟩
end Go.Proofs.Ytdejdnkkbpmmlaa
