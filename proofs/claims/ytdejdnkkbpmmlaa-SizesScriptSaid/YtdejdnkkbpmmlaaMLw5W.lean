/- The walk of the law SizesScript. -/
import Derived.Test.YtdejdnkkbpmmlaaMLw5A
import Derived.Test.YtdejdnkkbpmmlaaMLw4W
import Derived.Test.YtdejdnkkbpmmlaaMRefV
namespace Go.Proofs.Ytdejdnkkbpmmlaa
open Go.RowKit

set_option maxRecDepth 100000 in
set_option maxHeartbeats 1000000 in
theorem law5_long (A0 B : Option Addr) (c0 d : Nat) (us : List Nat) (g0 : Bool) (ss : List Step) (w : World) (hl : 15 < ss.length) :
    Calls Try.prog 5 #[.agg #[.slice A0 us.length c0, .bool g0], .slice B ss.length d] w fun e w' => e = .returned (.bool true) ∧ Below w.heap.size w w' := by
  have HB := Lib.hid (below_new w (.cells #[.slice A0 us.length c0, .bool g0] 24))
  go_enter Try.func5, Try.ntmps5
  go_wp2_with fail
  refine (lives_any _).mono ?_
  rintro e w1 ⟨rfl, kk⟩
  have HB1 := Lib.hid (HB.out.trans (kk.mono HB.out.size))
  clear kk
  go_wp2_with fail
  go_ret
  exact ⟨rfl, HB1.out⟩

set_option maxRecDepth 100000 in
set_option maxHeartbeats 16000000 in
theorem law5_short (A0 : Option Addr) (c0 : Nat) (us : List Nat) (gr : Bool) (B : Option Addr) (d : Nat) (ss : List Step) (w : World) (hr : RdU w w.heap.size A0 us) (hlc : us.length ≤ c0) (hm : c0 ≤ 9223372036854775807) (hx : RdSt w w.heap.size B ss) (hl : ss.length ≤ 15) :
    Calls Try.prog 5 #[.agg #[.slice A0 us.length c0, .bool gr], .slice B ss.length d] w fun e w' => e = .returned (.bool true) ∧ Below w.heap.size w w' := by
  have hb0 := below_new w (.cells #[.slice A0 us.length c0, .bool gr] 24)
  have hu1 : RdU (w.alloc (.cells #[.slice A0 us.length c0, .bool gr] 24)) (w.alloc (.cells #[.slice A0 us.length c0, .bool gr] 24)).heap.size A0 us := fun k hk => by
    obtain ⟨b, o, e, h1, h2, h3⟩ := hr.below hb0 k hk
    exact ⟨b, o, e, Nat.lt_of_lt_of_le h1 hb0.size, h2, h3⟩
  have HRW := Lib.hid (rows_loop A0 c0 us gr _ hu1 hlc hm)
  have HOF := Lib.hid (show ∀ U, Below (w.alloc (.cells #[.slice A0 us.length c0, .bool gr] 24)).heap.size (w.alloc (.cells #[.slice A0 us.length c0, .bool gr] 24)) U → Calls Try.prog 9 #[.agg #[.slice A0 us.length c0, .bool gr]] U _ from fun U kk => of_loop A0 c0 us gr U (fun k hk => by
    obtain ⟨b, o, e, h1, h2, h3⟩ := hu1.below kk k hk
    exact ⟨b, o, e, Nat.lt_of_lt_of_le h1 kk.size, h2, h3⟩) hlc hm)
  have hh := heap_alloc_new w (.cells #[.slice A0 us.length c0, .bool gr] 24)
  have HH := Lib.hid hh
  have HB := Lib.hid hb0
  have HX := Lib.hid hx
  have y0 := cell_of_row _ w.heap.size 0 _ 24 (0, 0) hh
  have y1 := cell_of_row _ w.heap.size 1 _ 24 (0, 0) hh
  clear hr hb0 hu1 hlc hm hh hx
  generalize rof us gr = r at *
  go_enter Try.func5, Try.ntmps5
  go_wp2_with fail
  refine HRW.out.mono ?_
  rintro e w1 ⟨RA, rc, rfl, hsl, kk⟩
  have hh := keep_heap kk HH.out
  have HB1 := Lib.hid (HB.out.trans (kk.mono HB.out.size))
  have HSL := Lib.hid hsl
  have HO := Lib.hid (HOF.out _ kk)
  clear HRW HOF y0 y1 kk hsl HH HB
  have y0 := cell_of_row _ w.heap.size 0 _ 24 (0, 0) hh
  have y1 := cell_of_row _ w.heap.size 1 _ 24 (0, 0) hh
  clear hh
  go_wp2_with fail
  refine HO.out.mono ?_
  rintro e w2 ⟨t, p, A, c, xs, rfl, hix, kk⟩
  have HS2 := Lib.hid ((HSL.out.below kk).below (below_new w2 (.cells #[.int .i64 t.count, .int .i64 t.total, .int .i64 t.depth, .pointer p, .slice A xs.length c] 32)))
  have HG2 := Lib.hid (HB1.out.trans (kk.mono HB1.out.size)).size
  have M2 := Lib.hid (show LI w (w2.alloc (.cells #[.int .i64 t.count, .int .i64 t.total, .int .i64 t.depth, .pointer p, .slice A xs.length c] 32)) w2.heap.size RA r t p A c xs from ⟨Vx.new hix (HB1.out.trans (kk.mono HB1.out.size)), (HSL.out.below kk).rd.next (below_new _ _)⟩)
  clear hix kk HO HSL HB1 y0 y1
  go_upto_region 5 with fail
  obtain ⟨g, hg1⟩ : ∃ g, w2.heap.size = g := ⟨_, rfl⟩
  obtain ⟨V2, hV⟩ : ∃ V : World, w2.alloc (.cells #[.int .i64 t.count, .int .i64 t.total, .int .i64 t.depth, .pointer p, .slice A xs.length c] 32) = V := ⟨_, rfl⟩
  rw [hV, hg1] at M2 ⊢
  rw [hV] at HS2
  rw [hg1] at HG2
  clear hV hg1
  obtain ⟨x0, x1, x2, x3, x4⟩ := box5 M2.out.vx.bx
  go_wp2_with fail
  refine (M2.out.same 0 rc).mono ?_
  rintro e w3 ⟨rfl, kk⟩
  have M3 := Lib.hid (show L5s w w3 g RA rc r t p A c xs from ⟨(M2.out.next kk).vx, HS2.out.below kk, HG2.out⟩)
  clear x0 x1 x2 x3 x4 kk M2 HS2 HG2
  go_upto_region 7 with fail
  go_wp2_with fail
  go_loopw [5, 7] (fun v k wr => ∃ (j : Nat) (l : List (Int × Bool)) (t : T) (p IA : Option Addr) (ic : Nat) (xs : List S.Sp) (A : Option Addr) (c : Nat), j ≤ ss.length ∧ v = .slice A l.length c ∧ k = .int .i64 j ∧ Hid (L5s w wr g A c l t p IA ic xs)) (fun _ k _ => ss.length - (intOf k).toNat)
  case atStart => exact ⟨0, r, t, p, A, c, xs, RA, rc, Nat.zero_le _, rfl, rfl, M3⟩
  case round =>
    clear M3
    obtain ⟨j, l, t, p, IA, ic, xs, A, c, hj, rfl, rfl, MJ⟩ := hrel
    by_cases hlt : j < ss.length
    · obtain ⟨b, o, rfl, hb, h0, h1, h2, h3, h4, h5, h6⟩ := HX.out j hlt
      have hb' : b < wr.heap.size := Nat.lt_of_lt_of_le hb MJ.out.vx.u.size
      replace h0 := (MJ.out.vx.u.cell (p := ⟨b, _, none⟩) hb).trans h0
      replace h1 := (MJ.out.vx.u.cell (p := ⟨b, _, none⟩) hb).trans h1
      replace h2 := (MJ.out.vx.u.cell (p := ⟨b, _, none⟩) hb).trans h2
      replace h3 := (MJ.out.vx.u.cell (p := ⟨b, _, none⟩) hb).trans h3
      replace h4 := (MJ.out.vx.u.cell (p := ⟨b, _, none⟩) hb).trans h4
      replace h5 := (MJ.out.vx.u.cell (p := ⟨b, _, none⟩) hb).trans h5
      have h6 := And.intro h6.sl (And.intro h6.kind (And.intro h6.a1 (And.intro h6.n1 (And.intro h6.x0 h6.x1))))
      obtain ⟨hsz, hkd, ha1, hn1, hx0, hx1⟩ := h6
      have HZ := Lib.hid (hsz.below MJ.out.vx.u)
      clear hsz
      generalize ss[j] = s at *
      obtain ⟨kind, at_, n, x, size, ZA, sc, zs⟩ := s
      simp only at h0 h1 h2 h3 h4 h5 hkd ha1 hn1 hx0 hx1
      rw [← Nat.add_assoc] at h1 h2 h3 h4 h5
      by_cases hz : 20 < zs.length
      · have hu := Lib.hid (MJ.out.vx.u.trans ((below_new wr (.cells #[.int .u8 kind, .int .i64 at_, .int .i64 n, .int .i64 x, .int .i64 size, .slice ZA zs.length sc] 55)).mono MJ.out.vx.u.size))
        clear MJ
        go_wp2_with fail
        refine (lives_any _).mono ?_
        rintro e w3 ⟨rfl, kk⟩
        have HBz := Lib.hid (hu.out.trans (kk.mono hu.out.size))
        clear kk
        go_wp2_with fail
        go_ret
        exact ⟨rfl, HBz.out⟩
      · have hb2 := below_two wr (.cells #[.int .u8 kind, .int .i64 at_, .int .i64 n, .int .i64 x, .int .i64 size, .slice ZA zs.length sc] 55) (.cells #[.int .i64 0, .int .i64 0, .int .i64 0, .pointer none, .slice none 0 0] 32)
        obtain ⟨q1, q2⟩ := two_heap wr (.cells #[.int .u8 kind, .int .i64 at_, .int .i64 n, .int .i64 x, .int .i64 size, .slice ZA zs.length sc] 55) (.cells #[.int .i64 0, .int .i64 0, .int .i64 0, .pointer none, .slice none 0 0] 32)
        have hrl : l.length ≤ 4096 := by have := MJ.out.vx.ix.vr.len; omega
        have M1 := Lib.hid (show S5 w _ g wr.heap.size (wr.heap.size + 1) A c l t p IA ic xs kind at_ n x size ZA sc zs from ⟨MJ.out.next hb2, (MJ.out.s.rd.below hb2).more (Nat.le_succ _), q1, ⟨_, _, _, _, _, q2⟩, Nat.lt_succ_of_lt MJ.out.lt, HZ.out.below hb2, far_rd (MJ.out.vx.ix.rd.more (Nat.le_succ _))⟩)
        obtain ⟨z0, z1, z2, z3, z4, z5⟩ := M1.out.cells
        clear hb2 q1 q2 MJ HZ
        go_upto_block 2 with fail
        obtain ⟨W3, hW3⟩ : ∃ W, (wr.alloc (.cells #[.int .u8 kind, .int .i64 at_, .int .i64 n, .int .i64 x, .int .i64 size, .slice ZA zs.length sc] 55)).alloc (.cells #[.int .i64 0, .int .i64 0, .int .i64 0, .pointer none, .slice none 0 0] 32) = W := ⟨_, rfl⟩
        obtain ⟨gn, hgn⟩ : ∃ gn, wr.heap.size + 1 = gn := ⟨_, rfl⟩
        obtain ⟨sb, hsb⟩ : ∃ sb, wr.heap.size = sb := ⟨_, rfl⟩
        rw [hW3] at M1 ⊢
        rw [hgn] at M1 ⊢
        rw [hsb] at M1 ⊢
        rw [hW3, hsb] at z0 z1 z2 z3 z4 z5
        clear hW3 hgn hsb
        go_cut [10, 11, 12] (fun s10 s11 s12 wx => ∃ (r : List (Int × Bool)) (f : Int) (t2 : T) (p2 I2 : Option Addr) (ic2 : Nat) (xs2 : List S.Sp) (A2 : Option Addr) (c2 : Nat), s10 = .int .i64 f ∧ s11 = .slice A2 r.length c2 ∧ s12 = .int .i64 f ∧ Hid (A5 w wx g gn A c l t p IA ic xs r t2 p2 I2 ic2 xs2 A2 c2))
        case first =>
          go_upto_if 48 with fail
          clear z0 z1 z2 z3 z4 z5
          rcases (show (kind : Int) % 4 = 0 ∨ (kind : Int) % 4 = 1 ∨ (kind : Int) % 4 = 2 ∨ (kind : Int) % 4 = 3 by omega) with hq | hq | hq | hq
          ·
            have e0 : ((kind : Int) % 4 == 0) = true := by rw [hq]; rfl
            have e1 : ((kind : Int) % 4 == 1) = false := by rw [hq]; rfl
            have e2 : ((kind : Int) % 4 == 2) = false := by rw [hq]; rfl
            have e3 : ((kind : Int) % 4 == 3) = false := by rw [hq]; rfl
            clear hq
            have HR := Lib.hid (fun b => refIns_any (d := sc) M1.out.m.s M1.out.sl.rd M1.out.m.vx.ix.vr at_ b ha1 (by omega))
            obtain ⟨y0, y1, y2, y3, y4, y5⟩ := M1.out.cells
            go_wp2_with fail
            refine (HR.out _).mono ?_
            rintro e w4 ⟨A2, c2, rfl, hs2, kk, fa⟩
            have M4 := Lib.hid (M1.out.next kk)
            have FA := Lib.hid (show ∀ a, A2 = some a → gn < a.block from fun a ha => Nat.lt_of_lt_of_le M1.out.gnlt (fa a ha))
            have S2 := Lib.hid hs2
            clear hs2 kk fa HR y0 y1 y2 y3 y4 y5 M1
            obtain ⟨y0, y1, y2, y3, y4, y5⟩ := M4.out.cells
            obtain ⟨x0, x1, x2, x3, x4⟩ := box5 M4.out.m.vx.bx
            have HI := Lib.hid (fun b => in_any (d := sc) M4.out.m.vx.ix at_ b M4.out.sl.rd M4.out.sl.le M4.out.sl.max)
            go_wp2_with fail
            refine (HI.out _).mono ?_
            rintro e w5 ⟨t2, p2, I2, ic2, xs2, rfl, hix, kk, hfar⟩
            have M5 := Lib.hid (M4.out.next kk)
            have AF := Lib.hid (M5.out.set hix (S2.out.below kk) FA.out (hfar gn M4.out.gnlt) (hfar g (Nat.lt_trans M4.out.gl M4.out.gnlt)))
            obtain ⟨v0, v1, v2, v3, v4, d0, d1, d2, d3, d4, f0, f1, f2, f3, f4⟩ := M5.out.rm.open_
            clear hix hfar kk HI M4 M5 S2 FA y0 y1 y2 y3 y4 y5 x0 x1 x2 x3 x4
            go_wp2_with fail
            go_meet
            exact ⟨_, _, t2, p2, I2, ic2, xs2, A2, c2, rfl, rfl, rfl, AF⟩
          ·
            have e0 : ((kind : Int) % 4 == 0) = false := by rw [hq]; rfl
            have e1 : ((kind : Int) % 4 == 1) = true := by rw [hq]; rfl
            have e2 : ((kind : Int) % 4 == 2) = false := by rw [hq]; rfl
            have e3 : ((kind : Int) % 4 == 3) = false := by rw [hq]; rfl
            clear hq
            have HR := Lib.hid (refRem_any M1.out.m.s at_ n ha1 hn1 hrl)
            obtain ⟨y0, y1, y2, y3, y4, y5⟩ := M1.out.cells
            go_wp2_with fail
            refine (HR.out).mono ?_
            rintro e w4 ⟨A2, c2, rfl, hs2, kk, fa⟩
            have M4 := Lib.hid (M1.out.next kk)
            have FA := Lib.hid (show ∀ a, A2 = some a → gn < a.block from fun a ha => Nat.lt_of_lt_of_le M1.out.gnlt (fa a ha))
            have S2 := Lib.hid hs2
            clear hs2 kk fa HR y0 y1 y2 y3 y4 y5 M1
            obtain ⟨y0, y1, y2, y3, y4, y5⟩ := M4.out.cells
            obtain ⟨x0, x1, x2, x3, x4⟩ := box5 M4.out.m.vx.bx
            have HI := Lib.hid (rm_any M4.out.m.vx.ix at_ n ha1)
            go_wp2_with fail
            refine (HI.out).mono ?_
            rintro e w5 ⟨t2, p2, I2, ic2, xs2, rfl, hix, kk, hfar⟩
            have M5 := Lib.hid (M4.out.next kk)
            have AF := Lib.hid (M5.out.set hix (S2.out.below kk) FA.out (hfar gn M4.out.gnlt) (hfar g (Nat.lt_trans M4.out.gl M4.out.gnlt)))
            obtain ⟨v0, v1, v2, v3, v4, d0, d1, d2, d3, d4, f0, f1, f2, f3, f4⟩ := M5.out.rm.open_
            clear hix hfar kk HI M4 M5 S2 FA y0 y1 y2 y3 y4 y5 x0 x1 x2 x3 x4
            go_wp2_with fail
            go_meet
            exact ⟨_, _, t2, p2, I2, ic2, xs2, A2, c2, rfl, rfl, rfl, AF⟩
          ·
            have e0 : ((kind : Int) % 4 == 0) = false := by rw [hq]; rfl
            have e1 : ((kind : Int) % 4 == 1) = false := by rw [hq]; rfl
            have e2 : ((kind : Int) % 4 == 2) = true := by rw [hq]; rfl
            have e3 : ((kind : Int) % 4 == 3) = false := by rw [hq]; rfl
            clear hq
            have HR := Lib.hid (refMov_any M1.out.m.s at_ n x ha1 hn1 hx1 hrl)
            obtain ⟨y0, y1, y2, y3, y4, y5⟩ := M1.out.cells
            go_wp2_with fail
            refine (HR.out).mono ?_
            rintro e w4 ⟨A2, c2, rfl, hs2, kk, fa⟩
            have M4 := Lib.hid (M1.out.next kk)
            have FA := Lib.hid (show ∀ a, A2 = some a → gn < a.block from fun a ha => Nat.lt_of_lt_of_le M1.out.gnlt (fa a ha))
            have S2 := Lib.hid hs2
            clear hs2 kk fa HR y0 y1 y2 y3 y4 y5 M1
            obtain ⟨y0, y1, y2, y3, y4, y5⟩ := M4.out.cells
            obtain ⟨x0, x1, x2, x3, x4⟩ := box5 M4.out.m.vx.bx
            have HI := Lib.hid (mv_any M4.out.m.vx.ix at_ n x ha1 hx1)
            go_wp2_with fail
            refine (HI.out).mono ?_
            rintro e w5 ⟨t2, p2, I2, ic2, xs2, rfl, hix, kk, hfar⟩
            have M5 := Lib.hid (M4.out.next kk)
            have AF := Lib.hid (M5.out.set hix (S2.out.below kk) FA.out (hfar gn M4.out.gnlt) (hfar g (Nat.lt_trans M4.out.gl M4.out.gnlt)))
            obtain ⟨v0, v1, v2, v3, v4, d0, d1, d2, d3, d4, f0, f1, f2, f3, f4⟩ := M5.out.rm.open_
            clear hix hfar kk HI M4 M5 S2 FA y0 y1 y2 y3 y4 y5 x0 x1 x2 x3 x4
            go_wp2_with fail
            go_meet
            exact ⟨_, _, t2, p2, I2, ic2, xs2, A2, c2, rfl, rfl, rfl, AF⟩
          ·
            have e0 : ((kind : Int) % 4 == 0) = false := by rw [hq]; rfl
            have e1 : ((kind : Int) % 4 == 1) = false := by rw [hq]; rfl
            have e2 : ((kind : Int) % 4 == 2) = false := by rw [hq]; rfl
            have e3 : ((kind : Int) % 4 == 3) = true := by rw [hq]; rfl
            clear hq
            have HR := Lib.hid (fun b => refSet_any M1.out.m.s M1.out.m.vx.ix.vr at_ size b ha1)
            obtain ⟨y0, y1, y2, y3, y4, y5⟩ := M1.out.cells
            go_wp2_with fail
            refine (HR.out _).mono ?_
            rintro e w4 ⟨A2, c2, rfl, hs2, kk, fa⟩
            have M4 := Lib.hid (M1.out.next kk)
            have FA := Lib.hid (show ∀ a, A2 = some a → gn < a.block from fun a ha => Nat.lt_of_lt_of_le M1.out.gnlt (fa a ha))
            have S2 := Lib.hid hs2
            clear hs2 kk fa HR y0 y1 y2 y3 y4 y5 M1
            obtain ⟨y0, y1, y2, y3, y4, y5⟩ := M4.out.cells
            obtain ⟨x0, x1, x2, x3, x4⟩ := box5 M4.out.m.vx.bx
            have HI := Lib.hid (fun b => st_any M4.out.m.vx.ix at_ size b ha1)
            go_wp2_with fail
            refine (HI.out _).mono ?_
            rintro e w5 ⟨t2, p2, I2, ic2, xs2, rfl, hix, kk, hfar⟩
            have M5 := Lib.hid (M4.out.next kk)
            have AF := Lib.hid (M5.out.set hix (S2.out.below kk) FA.out (hfar gn M4.out.gnlt) (hfar g (Nat.lt_trans M4.out.gl M4.out.gnlt)))
            obtain ⟨v0, v1, v2, v3, v4, d0, d1, d2, d3, d4, f0, f1, f2, f3, f4⟩ := M5.out.rm.open_
            clear hix hfar kk HI M4 M5 S2 FA y0 y1 y2 y3 y4 y5 x0 x1 x2 x3 x4
            go_wp2_with fail
            go_meet
            exact ⟨_, _, t2, p2, I2, ic2, xs2, A2, c2, rfl, rfl, rfl, AF⟩
        case rest =>
          obtain ⟨r, f, t2, p2, I2, ic2, xs2, A2, c2, rfl, rfl, rfl, AF⟩ := hcut
          clear M1 ha1 hn1 hx0 hx1 hkd z0 z1 z2 z3 z4 z5
          obtain ⟨x0, x1, x2, x3, x4⟩ := box5 AF.out.n.bx
          have HS := Lib.hid (same_any (d := c2) AF.out.n.ix AF.out.s2.rd f)
          go_wp2_with fail
          refine HS.out.mono ?_
          rintro e w6 ⟨rfl, kk⟩
          have A6 := Lib.hid (AF.out.next kk)
          clear kk AF HS x0 x1 x2 x3 x4
          obtain ⟨x0, x1, x2, x3, x4⟩ := box5 A6.out.m.vx.bx
          have HS := Lib.hid (same_any (d := c) A6.out.m.vx.ix A6.out.m.s.rd 0)
          go_wp2_with fail
          refine HS.out.mono ?_
          rintro e w7 ⟨rfl, kk⟩
          have A7 := Lib.hid (A6.out.next kk)
          clear kk A6 HS x0 x1 x2 x3 x4
          by_cases hf : f = 0
          · subst hf
            obtain ⟨x0, x1, x2, x3, x4⟩ := box5 A7.out.n.bx
            have hroom := A7.out.m.vx.room
            obtain ⟨v0, v1, v2, v3, v4, d0, d1, d2, d3, d4, f0, f1, f2, f3, f4⟩ := hroom.open_
            have M8 := Lib.hid A7.out.take
            clear A7 hroom
            go_upto_region 35 with fail
            obtain ⟨W8, hW8⟩ : ∃ W, (((((w7.setCell ⟨g, 0, none⟩ (.int .i64 t2.count)).setCell ⟨g, 1, none⟩ (.int .i64 t2.total)).setCell ⟨g, 2, none⟩ (.int .i64 t2.depth)).setCell ⟨g, 3, none⟩ (.pointer p2)).setCell ⟨g, 4, none⟩ (.slice I2 xs2.length ic2)) = W := ⟨_, rfl⟩
            rw [hW8] at M8 ⊢
            clear hW8 d0 d1 d2 d3 d4 f0 f1 f2 f3 f4 x0 x1 x2 x3 x4
            go_wp2_with fail
            go_roundw
            case rel => exact ⟨j + 1, r, t2, p2, I2, ic2, xs2, A2, c2, by omega, rfl, by go_num, M8⟩
            case measure => simp [intOf]; omega
          · have e1 : (f == 0) = false := by simpa using hf
            have M8 := Lib.hid A7.out.m
            clear A7
            go_wp2_with fail
            go_roundw
            case rel => exact ⟨j + 1, l, t, p, IA, ic, xs, A, c, by omega, rfl, by go_num, M8⟩
            case measure => simp [intOf]; omega
    · go_wp2_with fail
      refine (lives_any _).mono ?_
      rintro e w4 ⟨rfl, kk⟩
      have HBz := Lib.hid (MJ.out.vx.u.trans (kk.mono MJ.out.vx.u.size))
      clear kk
      go_wp2_with fail
      go_ret
      exact ⟨rfl, HBz.out⟩
end Go.Proofs.Ytdejdnkkbpmmlaa
