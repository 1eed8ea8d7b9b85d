/- The walk of the law SizesMoves. -/
import Derived.Test.YtdejdnkkbpmmlaaMMvC
namespace Go.Proofs.Ytdejdnkkbpmmlaa
open Go.RowKit

/-- the memory of the law: rows, and four indexes in their variables -/
structure L6 (w U : World) (ga gb gc gd : Nat) (RA : Option Addr) (r m d : List (Int × Bool)) (ta tb tc td : T) (pa pb pc pd Aa Ab Ac Ad : Option Addr) (ca cb cc cd : Nat) (xa xb xc xd : List S.Sp) : Prop where
  va : Vx w U ga r ta pa Aa ca xa
  vb : Vx w U gb m tb pb Ab cb xb
  vc : Vx w U gc r tc pc Ac cc xc
  vd : Vx w U gd d td pd Ad cd xd
  rd : RdR U U.heap.size RA r

theorem len_at {w : World} {r : List (Int × Bool)} {t : T} {p A : Option Addr} {c : Nat} {xs : List S.Sp} (h : Ix w r t p A c xs) : Calls Try.prog 27 #[.agg #[.int .i64 t.count, .int .i64 t.total, .int .i64 t.depth, .pointer p]] w fun e w' => e = .returned (.int .i64 r.length) ∧ Below w.heap.size w w' := by
  have := len_below t.count t.total t.depth p w
  rw [show (t.count : Int) = r.length from by rw [h.cnt]] at this ⊢
  exact this
theorem keep3 {w W W1 : World} {x0 x1 z0 z1 z2 : Value} (h : W.cell? ⟨w.heap.size, 0, none⟩ = some x0 ∧ W.cell? ⟨w.heap.size, 1, none⟩ = some x1 ∧ W.cell? ⟨w.heap.size + 1, 0, none⟩ = some z0 ∧ W.cell? ⟨w.heap.size + 1, 1, none⟩ = some z1 ∧ W.cell? ⟨w.heap.size + 1, 2, none⟩ = some z2 ∧ Below w.heap.size w W ∧ w.heap.size + 2 ≤ W.heap.size) (k : Below W.heap.size W W1) :
    W1.cell? ⟨w.heap.size, 0, none⟩ = some x0 ∧ W1.cell? ⟨w.heap.size, 1, none⟩ = some x1 ∧ W1.cell? ⟨w.heap.size + 1, 0, none⟩ = some z0 ∧ W1.cell? ⟨w.heap.size + 1, 1, none⟩ = some z1 ∧ W1.cell? ⟨w.heap.size + 1, 2, none⟩ = some z2 ∧ Below w.heap.size w W1 ∧ w.heap.size + 2 ≤ W1.heap.size := by
  obtain ⟨h1, h2, h3, h4, h5, h6, h7⟩ := h
  exact ⟨(k.cell (p := ⟨w.heap.size, 0, none⟩) (by show w.heap.size < _; omega)).trans h1, (k.cell (p := ⟨w.heap.size, 1, none⟩) (by show w.heap.size < _; omega)).trans h2, (k.cell (p := ⟨w.heap.size + 1, 0, none⟩) (by show w.heap.size + 1 < _; omega)).trans h3, (k.cell (p := ⟨w.heap.size + 1, 1, none⟩) (by show w.heap.size + 1 < _; omega)).trans h4, (k.cell (p := ⟨w.heap.size + 1, 2, none⟩) (by show w.heap.size + 1 < _; omega)).trans h5,
    h6.trans (k.mono (by omega)), Nat.le_trans h7 k.size⟩

set_option maxRecDepth 100000 in
set_option maxHeartbeats 16000000 in
theorem law6_any (A0 : Option Addr) (c0 : Nat) (us : List Nat) (gr : Bool) (z0 z1 z2 : Nat) (w : World) (hr : RdU w w.heap.size A0 us) (hlc : us.length ≤ c0) (hm : c0 ≤ 9223372036854775807) (hz0 : z0 ≤ 255) (hz1 : z1 ≤ 255) (hz2 : z2 ≤ 255) :
    Calls Try.prog 6 #[.agg #[.slice A0 us.length c0, .bool gr], .agg #[.int .u8 (z0 : Nat), .int .u8 (z1 : Nat), .int .u8 (z2 : Nat)]] w fun e w' => e = .returned (.bool true) ∧ Below w.heap.size w w' := by
  have hb0 := below_two w (.cells #[.slice A0 us.length c0, .bool gr] 24) (.cells #[.int .u8 (z0 : Nat), .int .u8 (z1 : Nat), .int .u8 (z2 : Nat)] 67)
  obtain ⟨q1, q2⟩ := two_heap w (.cells #[.slice A0 us.length c0, .bool gr] 24) (.cells #[.int .u8 (z0 : Nat), .int .u8 (z1 : Nat), .int .u8 (z2 : Nat)] 67)
  have HRW := Lib.hid (show ∀ U, Below w.heap.size w U → Calls Try.prog 8 #[.agg #[.slice A0 us.length c0, .bool gr]] U _ from fun U kk => rows_loop A0 c0 us gr U (fun k hk => by
    obtain ⟨b, o, e, h1, h2, h3⟩ := hr.below kk k hk
    exact ⟨b, o, e, Nat.lt_of_lt_of_le h1 kk.size, h2, h3⟩) hlc hm)
  have HOF := Lib.hid (show ∀ U, Below w.heap.size w U → Calls Try.prog 9 #[.agg #[.slice A0 us.length c0, .bool gr]] U _ from fun U kk => of_loop A0 c0 us gr U (fun k hk => by
    obtain ⟨b, o, e, h1, h2, h3⟩ := hr.below kk k hk
    exact ⟨b, o, e, Nat.lt_of_lt_of_le h1 kk.size, h2, h3⟩) hlc hm)
  have K0 := Lib.hid (show _ from (⟨cell_of_row _ w.heap.size 0 _ 24 (0, 0) q1, cell_of_row _ w.heap.size 1 _ 24 (0, 0) q1, cell_of_row _ (w.heap.size + 1) 0 _ 67 (0, 0) q2, cell_of_row _ (w.heap.size + 1) 1 _ 67 (0, 0) q2, cell_of_row _ (w.heap.size + 1) 2 _ 67 (0, 0) q2, hb0, heap_lt q2⟩ : _ ∧ _ ∧ _ ∧ _ ∧ _ ∧ _ ∧ _))
  have HVR := Lib.hid (rof_vr us gr)
  have hlen := (rof_vr us gr).len
  clear hr hb0 hlc hm q1 q2
  generalize rof us gr = r at *
  obtain ⟨y0, y1, -, -, -, -, -⟩ := K0.out
  go_enter Try.func6, Try.ntmps6
  go_wp2_with fail
  refine (HRW.out _ K0.out.2.2.2.2.2.1).mono ?_
  rintro e w1 ⟨RA, rc, rfl, hsl, kk⟩
  have K1 := Lib.hid (keep3 K0.out kk)
  have HSL := Lib.hid hsl
  have hrle := hsl.le
  have hrmx := hsl.max
  clear HRW y0 y1 kk hsl K0
  obtain ⟨y0, y1, -, -, -, -, -⟩ := K1.out
  go_wp2_with fail
  refine (HOF.out _ K1.out.2.2.2.2.2.1).mono ?_
  rintro e w2 ⟨t, p, A, c, xs, rfl, hix, kk⟩
  have K2 := Lib.hid (keep3 (keep3 K1.out kk) (below_new _ (.cells #[.int .i64 t.count, .int .i64 t.total, .int .i64 t.depth, .pointer p, .slice A xs.length c] 32)))
  have M2 := Lib.hid (show LI w (w2.alloc (.cells #[.int .i64 t.count, .int .i64 t.total, .int .i64 t.depth, .pointer p, .slice A xs.length c] 32)) w2.heap.size RA r t p A c xs from ⟨Vx.new hix (keep3 K1.out kk).2.2.2.2.2.1, (HSL.out.below kk).rd.next (below_new _ _)⟩)
  clear hix kk HOF HSL K1 y0 y1
  go_upto_region 3 with fail
  obtain ⟨g, hg1⟩ : ∃ g, w2.heap.size = g := ⟨_, rfl⟩
  obtain ⟨V2, hV⟩ : ∃ V : World, w2.alloc (.cells #[.int .i64 t.count, .int .i64 t.total, .int .i64 t.depth, .pointer p, .slice A xs.length c] 32) = V := ⟨_, rfl⟩
  rw [hV, hg1] at M2
  rw [hV] at K2
  rw [hV, hg1]
  clear hV hg1
  obtain ⟨-, -, q0, q1, q2, -, -⟩ := K2.out
  clear K2
  obtain ⟨a, ha⟩ : ∃ a, z0 % (r.length + 1) = a := ⟨_, rfl⟩
  have hal : a ≤ r.length := by have := Nat.mod_lt z0 (show 0 < r.length + 1 by omega); omega
  obtain ⟨n, hn⟩ : ∃ n, z1 % (r.length - a + 1) = n := ⟨_, rfl⟩
  have hnl : a + n ≤ r.length := by have := Nat.mod_lt z1 (show 0 < r.length - a + 1 by omega); omega
  obtain ⟨x, hx⟩ : ∃ x, z2 % (r.length - n + 1) = x := ⟨_, rfl⟩
  have hxl : x + n ≤ r.length := by have := Nat.mod_lt z2 (show 0 < r.length - n + 1 by omega); omega
  have E0 : Hid ((z0 : Int) % ((r.length : Int) + 1) = (a : Int)) := Lib.hid (by rw [← ha]; exact (Int.natCast_emod z0 (r.length + 1)).symm)
  have E1 : Hid ((z1 : Int) % ((r.length : Int) - (a : Int) + 1) = (n : Int)) := Lib.hid (by
    rw [← hn, show (r.length : Int) - (a : Int) + 1 = ((r.length - a + 1 : Nat) : Int) by omega]
    exact (Int.natCast_emod z1 _).symm)
  have E2 : Hid ((z2 : Int) % ((r.length : Int) - (n : Int) + 1) = (x : Int)) := Lib.hid (by
    rw [← hx, show (r.length : Int) - (n : Int) + 1 = ((r.length - n + 1 : Nat) : Int) by omega]
    exact (Int.natCast_emod z2 _).symm)
  obtain ⟨m, d, em, eb, hml, hms, ed, hds⟩ := mov_back hnl hxl
  have EM := Lib.hid em
  have EB := Lib.hid eb
  have ED := Lib.hid ed
  have HMS := Lib.hid hms
  have HDS := Lib.hid hds
  have HML := Lib.hid hml
  clear em eb ed hms hds hml
  clear ha hn hx
  go_cut [7] (fun s wx => s = .int .i64 a ∧ wx = V2)
  case first =>
    go_wp2_with fail
    go_meet
    exact ⟨by rw [E0.out], rfl⟩
  case rest =>
  obtain ⟨rfl, hw⟩ := hcut
  subst hw
  go_upto_region 4 with fail
  go_cut [8] (fun s wx => s = .int .i64 n ∧ wx = wc)
  case first =>
    go_wp2_with fail
    go_meet
    exact ⟨by rw [E1.out], rfl⟩
  case rest =>
  obtain ⟨rfl, hw⟩ := hcut
  subst hw
  go_upto_region 5 with fail
  go_cut [9] (fun s wx => s = .int .i64 x ∧ wx = wc)
  case first =>
    go_wp2_with fail
    go_meet
    exact ⟨by rw [E2.out], rfl⟩
  case rest =>
  obtain ⟨rfl, hw⟩ := hcut
  subst hw
  clear q0 q1 q2 E0 E1 E2 hz0 hz1 hz2
  have HC := Lib.hid (IxE.o EM.out (mv_any M2.out.vx.ix (a : Int) (n : Int) (x : Int) (by omega) (by omega)))
  obtain ⟨x0, x1, x2, x3, x4⟩ := box5 M2.out.vx.bx
  go_wp2_with fail
  refine HC.out.mono ?_
  rintro e w3 ⟨tb, pb, Ab, cb, xb, rfl, hix, kk, _⟩
  have M3 := Lib.hid ((M2.out.next kk).lit (.cells #[.int .i64 tb.count, .int .i64 tb.total, .int .i64 tb.depth, .pointer pb, .slice Ab xb.length cb] 32))
  have B3 := Lib.hid (Vx.new hix (M2.out.next kk).vx.u)
  clear kk HC M2 x0 x1 x2 x3 x4 hix
  go_upto_region 7 with fail
  obtain ⟨gb, hg1⟩ : ∃ g, w3.heap.size = g := ⟨_, rfl⟩
  obtain ⟨V3, hV⟩ : ∃ V : World, w3.alloc (.cells #[.int .i64 tb.count, .int .i64 tb.total, .int .i64 tb.depth, .pointer pb, .slice Ab xb.length cb] 32) = V := ⟨_, rfl⟩
  rw [hV] at M3 B3 ⊢
  rw [hg1] at B3 ⊢
  clear hV hg1
  have HC := Lib.hid (IxE.o EB.out (mv_any B3.out.ix (x : Int) (n : Int) (a : Int) (by omega) (by omega)))
  obtain ⟨x0, x1, x2, x3, x4⟩ := box5 B3.out.bx
  go_wp2_with fail
  refine HC.out.mono ?_
  rintro e w4 ⟨tc, pc, Ac, cc, xc, rfl, hix, kk, _⟩
  have M4 := Lib.hid ((M3.out.next kk).lit (.cells #[.int .i64 tc.count, .int .i64 tc.total, .int .i64 tc.depth, .pointer pc, .slice Ac xc.length cc] 32))
  have B4 := Lib.hid ((B3.out.next kk).lit (.cells #[.int .i64 tc.count, .int .i64 tc.total, .int .i64 tc.depth, .pointer pc, .slice Ac xc.length cc] 32))
  have C4 := Lib.hid (Vx.new hix (M3.out.next kk).vx.u)
  clear kk HC M3 B3 x0 x1 x2 x3 x4 hix
  go_upto_region 8 with fail
  obtain ⟨gc, hg1⟩ : ∃ g, w4.heap.size = g := ⟨_, rfl⟩
  obtain ⟨V4, hV⟩ : ∃ V : World, w4.alloc (.cells #[.int .i64 tc.count, .int .i64 tc.total, .int .i64 tc.depth, .pointer pc, .slice Ac xc.length cc] 32) = V := ⟨_, rfl⟩
  rw [hV] at M4 B4 C4 ⊢
  rw [hg1] at C4 ⊢
  clear hV hg1
  have HC := Lib.hid (IxE.o ED.out (rm_any M4.out.vx.ix (a : Int) (n : Int) (by omega)))
  obtain ⟨x0, x1, x2, x3, x4⟩ := box5 M4.out.vx.bx
  go_wp2_with fail
  refine HC.out.mono ?_
  rintro e w5 ⟨td, pd, Ad, cd, xd, rfl, hix, kk, _⟩
  have M5 := Lib.hid ((M4.out.next kk).lit (.cells #[.int .i64 td.count, .int .i64 td.total, .int .i64 td.depth, .pointer pd, .slice Ad xd.length cd] 32))
  have B5 := Lib.hid ((B4.out.next kk).lit (.cells #[.int .i64 td.count, .int .i64 td.total, .int .i64 td.depth, .pointer pd, .slice Ad xd.length cd] 32))
  have C5 := Lib.hid ((C4.out.next kk).lit (.cells #[.int .i64 td.count, .int .i64 td.total, .int .i64 td.depth, .pointer pd, .slice Ad xd.length cd] 32))
  have D5 := Lib.hid (Vx.new hix (M4.out.next kk).vx.u)
  clear kk HC M4 B4 C4 x0 x1 x2 x3 x4 hix
  go_upto_region 9 with fail
  obtain ⟨gd, hg1⟩ : ∃ g, w5.heap.size = g := ⟨_, rfl⟩
  obtain ⟨V5, hV⟩ : ∃ V : World, w5.alloc (.cells #[.int .i64 td.count, .int .i64 td.total, .int .i64 td.depth, .pointer pd, .slice Ad xd.length cd] 32) = V := ⟨_, rfl⟩
  rw [hV] at M5 B5 C5 D5 ⊢
  rw [hg1] at D5 ⊢
  clear hV hg1
  have HT1 := Lib.hid (rtop_any RA rc r V5 M5.out.rd HVR.out.vd (a + n) hnl)
  have HT2 := Lib.hid (rtop_any RA rc r V5 M5.out.rd HVR.out.vd a hal)
  have h1 := HVR.out.vd.lo (a + n)
  have h2 := HVR.out.vd.hi (a + n)
  have h3 := HVR.out.vd.lo a
  have h4 := HVR.out.vd.hi a
  have h5 := HVR.out.vd.lo r.length
  have h6 := HVR.out.vd.hi r.length
  rw [pre_full] at h5 h6
  have h7 := pre_mono (vd_nn HVR.out) (show a ≤ a + n by omega)
  have hTA := M5.out.vx.ix.tot
  have hTB := B5.out.ix.tot
  rw [HMS.out] at hTB
  have hTD := D5.out.ix.tot
  rw [HDS.out] at hTD
  obtain ⟨S, hS⟩ : ∃ S, (sz r).sum = S := ⟨_, rfl⟩
  obtain ⟨u, hu⟩ : ∃ u, pre (sz r) (a + n) = u := ⟨_, rfl⟩
  obtain ⟨v, hv⟩ : ∃ v, pre (sz r) a = v := ⟨_, rfl⟩
  rw [hu] at HT1
  rw [hv] at HT2
  rw [hS] at h5 h6 hTA hTB hTD
  rw [hu] at h1 h2 hTD
  rw [hv] at h3 h4 hTD
  rw [hu, hv] at h7
  clear hS hu hv HMS HDS
  have a1 : IntKind.i64.wrap (u - v) = u - v := IntWalk.i64_in _ (by omega)
  have a2 : IntKind.i64.wrap (S - (u - v)) = S - (u - v) := IntWalk.i64_in _ (by omega)
  have hcast : ((a + n : Nat) : Int) = (a : Int) + (n : Int) := by omega
  rw [hcast] at HT1
  go_wp2_with fail
  refine HT1.out.mono ?_
  rintro e w' ⟨rfl, rfl⟩
  go_wp2_with fail
  refine HT2.out.mono ?_
  rintro e w' ⟨rfl, rfl⟩
  clear HT1 HT2
  go_upto_region 10 with fail
  have HT3 := Lib.hid hTA
  have HT4 := Lib.hid hTB
  have HT5 := Lib.hid hTD
  clear hTA hTB hTD h1 h2 h3 h4 h5 h6 h7
  obtain ⟨P, hP⟩ : ∃ P : World → Prop, (fun U => LI w U g RA r t p A c xs ∧ Vx w U gb m tb pb Ab cb xb ∧ Vx w U gc r tc pc Ac cc xc ∧ Vx w U gd d td pd Ad cd xd) = P := ⟨_, rfl⟩
  have PV := Lib.hid (show ∀ U, P U → LI w U g RA r t p A c xs ∧ Vx w U gb m tb pb Ab cb xb ∧ Vx w U gc r tc pc Ac cc xc ∧ Vx w U gd d td pd Ad cd xd from fun U h => by rw [← hP] at h; exact h)
  have PN := Lib.hid (show ∀ U U', Hid (P U) → Below U.heap.size U U' → P U' from fun U U' h kk => by
    have h := h.out
    rw [← hP] at h ⊢
    exact ⟨h.1.next kk, h.2.1.next kk, h.2.2.1.next kk, h.2.2.2.next kk⟩)
  have HP0 : Hid (P V5) := Lib.hid (by rw [← hP]; exact ⟨M5.out, B5.out, C5.out, D5.out⟩)
  have HPd : Hid (P V5.drew) := Lib.hid (PN.out _ _ HP0 (drew_below _))
  have PC := Lib.hid (show ∀ U, Hid (P U) → (U.cell? ⟨g, 0, none⟩ = some (.int .i64 t.count) ∧ U.cell? ⟨g, 1, none⟩ = some (.int .i64 t.total) ∧ U.cell? ⟨g, 2, none⟩ = some (.int .i64 t.depth) ∧ U.cell? ⟨g, 3, none⟩ = some (.pointer p) ∧ U.cell? ⟨gb, 0, none⟩ = some (.int .i64 tb.count) ∧ U.cell? ⟨gb, 1, none⟩ = some (.int .i64 tb.total) ∧ U.cell? ⟨gb, 2, none⟩ = some (.int .i64 tb.depth) ∧ U.cell? ⟨gb, 3, none⟩ = some (.pointer pb) ∧ U.cell? ⟨gc, 0, none⟩ = some (.int .i64 tc.count) ∧ U.cell? ⟨gc, 1, none⟩ = some (.int .i64 tc.total) ∧ U.cell? ⟨gc, 2, none⟩ = some (.int .i64 tc.depth) ∧ U.cell? ⟨gc, 3, none⟩ = some (.pointer pc) ∧ U.cell? ⟨gc, 4, none⟩ = some (.slice Ac xc.length cc) ∧ U.cell? ⟨gd, 0, none⟩ = some (.int .i64 td.count) ∧ U.cell? ⟨gd, 1, none⟩ = some (.int .i64 td.total) ∧ U.cell? ⟨gd, 2, none⟩ = some (.int .i64 td.depth) ∧ U.cell? ⟨gd, 3, none⟩ = some (.pointer pd)) from fun U h => by
    obtain ⟨h1, h2, h3, h4⟩ := PV.out _ h.out
    obtain ⟨x0, x1, x2, x3, _⟩ := box5 h1.vx.bx
    obtain ⟨y0, y1, y2, y3, _⟩ := box5 h2.bx
    obtain ⟨z0, z1, z2, z3, z4⟩ := box5 h3.bx
    obtain ⟨u0, u1, u2, u3, _⟩ := box5 h4.bx
    exact ⟨x0, x1, x2, x3, y0, y1, y2, y3, z0, z1, z2, z3, z4, u0, u1, u2, u3⟩)
  have CL := Lib.hid (show ∀ U, Hid (P U) → Calls Try.prog 27 #[.agg #[.int .i64 tb.count, .int .i64 tb.total, .int .i64 tb.depth, .pointer pb]] U fun e w' => e = .returned (.int .i64 r.length) ∧ Below U.heap.size U w' from fun U h => by
    have := len_at (PV.out _ h.out).2.1.ix
    rw [HML.out] at this
    exact this)
  have CB := Lib.hid (show ∀ U, Hid (P U) → Calls Try.prog 28 #[.agg #[.int .i64 tb.count, .int .i64 tb.total, .int .i64 tb.depth, .pointer pb]] U fun e w' => e = .returned (.int .i64 S) ∧ Below U.heap.size U w' from fun U h => by
    have := total_below tb.count tb.total tb.depth pb U
    rw [HT4.out] at this ⊢
    exact this)
  have CA := Lib.hid (show ∀ U, Hid (P U) → Calls Try.prog 28 #[.agg #[.int .i64 t.count, .int .i64 t.total, .int .i64 t.depth, .pointer p]] U fun e w' => e = .returned (.int .i64 S) ∧ Below U.heap.size U w' from fun U h => by
    have := total_below t.count t.total t.depth p U
    rw [HT3.out] at this ⊢
    exact this)
  have CD := Lib.hid (show ∀ U, Hid (P U) → Calls Try.prog 28 #[.agg #[.int .i64 td.count, .int .i64 td.total, .int .i64 td.depth, .pointer pd]] U fun e w' => e = .returned (.int .i64 (S - (u - v))) ∧ Below U.heap.size U w' from fun U h => by
    have := total_below td.count td.total td.depth pd U
    rw [HT5.out] at this ⊢
    exact this)
  have CS := Lib.hid (show ∀ U, Hid (P U) → Calls Try.prog 10 #[.agg #[.int .i64 tc.count, .int .i64 tc.total, .int .i64 tc.depth, .pointer pc, .slice Ac xc.length cc], .int .i64 0, .slice RA r.length rc, .int .i64 0] U fun e w' => e = .returned (.bool true) ∧ Below U.heap.size U w' from fun U h => same_any (PV.out _ h.out).2.2.1.ix (PV.out _ h.out).1.rd 0)
  have CV := Lib.hid (show ∀ U, Hid (P U) → Calls Try.prog 17 #[] U fun e w' => e = .returned (.bool true) ∧ Below U.heap.size U w' from fun U h => lives_any U)
  clear hP HT3 HT4 HT5 HML M5 B5 C5 D5 EM EB ED HVR
  go_region_held3 (fun U => U.cell? ⟨g, 0, none⟩ = some (.int .i64 t.count) ∧ U.cell? ⟨g, 1, none⟩ = some (.int .i64 t.total) ∧ U.cell? ⟨g, 2, none⟩ = some (.int .i64 t.depth) ∧ U.cell? ⟨g, 3, none⟩ = some (.pointer p) ∧ U.cell? ⟨gb, 0, none⟩ = some (.int .i64 tb.count) ∧ U.cell? ⟨gb, 1, none⟩ = some (.int .i64 tb.total) ∧ U.cell? ⟨gb, 2, none⟩ = some (.int .i64 tb.depth) ∧ U.cell? ⟨gb, 3, none⟩ = some (.pointer pb) ∧ U.cell? ⟨gc, 0, none⟩ = some (.int .i64 tc.count) ∧ U.cell? ⟨gc, 1, none⟩ = some (.int .i64 tc.total) ∧ U.cell? ⟨gc, 2, none⟩ = some (.int .i64 tc.depth) ∧ U.cell? ⟨gc, 3, none⟩ = some (.pointer pc) ∧ U.cell? ⟨gc, 4, none⟩ = some (.slice Ac xc.length cc) ∧ U.cell? ⟨gd, 0, none⟩ = some (.int .i64 td.count) ∧ U.cell? ⟨gd, 1, none⟩ = some (.int .i64 td.total) ∧ U.cell? ⟨gd, 2, none⟩ = some (.int .i64 td.depth) ∧ U.cell? ⟨gd, 3, none⟩ = some (.pointer pd))
    (with_reducible exact PC.out _ (by assumption))
    (first
      | (go_at_call 27; (with_reducible refine (CL.out _ (by assumption)).mono ?_); rintro e w6 ⟨rfl, kk⟩; have HQ := Lib.hid (PN.out _ _ (by assumption) kk); clear kk)
      | (go_at_call 28; (with_reducible refine (CB.out _ (by assumption)).mono ?_); rintro e w6 ⟨rfl, kk⟩; have HQ := Lib.hid (PN.out _ _ (by assumption) kk); clear kk)
      | (go_at_call 28; (with_reducible refine (CA.out _ (by assumption)).mono ?_); rintro e w6 ⟨rfl, kk⟩; have HQ := Lib.hid (PN.out _ _ (by assumption) kk); clear kk)
      | (go_at_call 28; (with_reducible refine (CD.out _ (by assumption)).mono ?_); rintro e w6 ⟨rfl, kk⟩; have HQ := Lib.hid (PN.out _ _ (by assumption) kk); clear kk)
      | (go_at_call 10; (with_reducible refine (CS.out _ (by assumption)).mono ?_); rintro e w6 ⟨rfl, kk⟩; have HQ := Lib.hid (PN.out _ _ (by assumption) kk); clear kk)
      | (go_at_call 17; (with_reducible refine (CV.out _ (by assumption)).mono ?_); rintro e w6 ⟨rfl, kk⟩; have HQ := Lib.hid (PN.out _ _ (by assumption) kk); clear kk))
  all_goals (
    go_wp2_with fail
    go_ret
    exact ⟨rfl, (PV.out _ HQ.out).1.vx.u⟩)
end Go.Proofs.Ytdejdnkkbpmmlaa
