/- The walk of the law RopesScript. -/
import Derived.Test.YtfkjnepafgehiaaLaw4A
namespace Go.Proofs.Ytfkjnepafgehiaa
open Go.RowKit

set_option maxHeartbeats 1000000 in
theorem law4_long (hL : LivesOk) (A0 B : Option Addr) (c0 d : Nat) (us : List Nat) (g0 : Bool) (xs : List Step) (w : World) (hl : 20 < xs.length) :
    Calls Try.prog 6 #[.agg #[.slice A0 us.length c0, .bool g0], .slice B xs.length d] w fun e w' => e = .returned (.bool true) ∧ Below w.heap.size w w' := by
  have HL := Lib.hid hL; clear hL
  have HB := Lib.hid (below_new w (.cells #[.slice A0 us.length c0, .bool g0] 35))
  go_enter Try.func6, Try.ntmps6
  go_wp2_with fail
  refine (HL.out _).mono ?_
  rintro e w1 ⟨rfl, kk⟩
  have HB1 := Lib.hid (HB.out.trans (kk.mono HB.out.size))
  clear kk
  go_wp2_with fail
  go_ret
  exact ⟨rfl, HB1.out⟩

set_option maxRecDepth 100000 in
set_option maxHeartbeats 8000000 in
theorem law4_short (hL : LivesOk) (A0 B : Option Addr) (c0 d : Nat) (us : List Nat) (g0 : Bool) (xs : List Step) (w : World) (hr : RdU w w.heap.size A0 us) (hx : RdSt w w.heap.size B xs) (hlc : us.length ≤ c0) (hm : c0 ≤ 9223372036854775807) (hl : xs.length ≤ 20) :
    Calls Try.prog 6 #[.agg #[.slice A0 us.length c0, .bool g0], .slice B xs.length d] w fun e w' => e = .returned (.bool true) ∧ Below w.heap.size w w' := by
  have HL := Lib.hid hL; clear hL
  have hB0 := below_new w (.cells #[.slice A0 us.length c0, .bool g0] 35)
  have hv := xof_vd us g0
  have hrw := rOfN_loop A0 c0 us g0 (w.alloc (.cells #[.slice A0 us.length c0, .bool g0] 35)) (by
    intro k hk
    obtain ⟨b, o, e, h1, h2, h3⟩ := hr.below hB0 k hk
    exact ⟨b, o, e, Nat.lt_of_lt_of_le h1 hB0.size, h2, h3⟩) hlc hm
  generalize xof us g0 = l at *
  have HR0 := Lib.hid hrw
  have HV := Lib.hid hv
  have HX := Lib.hid hx
  have HB0 := Lib.hid hB0
  clear hr hx hrw hv hB0 hlc hm
  go_enter Try.func6, Try.ntmps6
  go_wp2_with fail
  refine HR0.out.mono ?_
  rintro e w1 ⟨A, c, rfl, hc1, hm1, hr1, kk, hn1⟩
  have SA := Lib.hid (show SlI w1 A c l from ⟨hr1, hc1, hm1, hn1⟩)
  have HB1 := Lib.hid (HB0.out.trans (kk.mono HB0.out.size))
  have HO := Lib.hid (of_ok A c l w1 SA.out.rd HV.out SA.out.le SA.out.max)
  clear kk hr1 hn1 HB0 HR0
  go_wp2_with fail
  refine HO.out.mono ?_
  rintro e w2 ⟨t, p, ht, rfl, hn, kk⟩
  have bn := below_new w2 (.cells #[.int .i64 t.count, .int .i64 t.total, .int .i64 t.depth, .pointer p] 27)
  have M0 := Lib.hid (show L4s w _ w2.heap.size A c l t p from ⟨rp_new hn ht.ls, (SA.out.below kk).below bn, HV.out, (HB1.out.trans (kk.mono HB1.out.size)).trans (bn.mono (HB1.out.trans (kk.mono HB1.out.size)).size), (HB1.out.trans (kk.mono HB1.out.size)).size⟩)
  clear kk bn ht hn HO SA HB1 hc1 hm1 HV
  go_upto_region 7 with fail
  obtain ⟨W2, hW2⟩ : ∃ W, w2.alloc (.cells #[.int .i64 t.count, .int .i64 t.total, .int .i64 t.depth, .pointer p] 27) = W := ⟨_, rfl⟩
  obtain ⟨g, hg⟩ : ∃ g, w2.heap.size = g := ⟨_, rfl⟩
  rw [hW2] at M0 ⊢
  rw [hg] at M0 ⊢
  clear hW2 hg
  go_wp2_with fail
  go_loopw [5, 7, 8] (fun v _ k wr => ∃ (j : Nat) (l : List Int) (t : T) (p A : Option Addr) (c : Nat), j ≤ xs.length ∧ v = .slice A l.length c ∧ k = .int .i64 j ∧ Hid (L4s w wr g A c l t p)) (fun _ _ k _ => xs.length - (intOf k).toNat)
  case atStart => exact ⟨0, l, t, p, A, c, Nat.zero_le _, rfl, rfl, M0⟩
  case round =>
    clear M0
    obtain ⟨j, l, t, p, A, c, hj, rfl, rfl, MJ⟩ := hrel
    by_cases hlt : j < xs.length
    · obtain ⟨b, o, rfl, hb, h0, h1, h2, h3, h4, h5⟩ := HX.out j hlt
      have hb' : b < wr.heap.size := Nat.lt_of_lt_of_le hb MJ.out.u.size
      replace h0 := (MJ.out.u.cell (p := ⟨b, _, none⟩) hb).trans h0
      replace h1 := (MJ.out.u.cell (p := ⟨b, _, none⟩) hb).trans h1
      replace h2 := (MJ.out.u.cell (p := ⟨b, _, none⟩) hb).trans h2
      replace h3 := (MJ.out.u.cell (p := ⟨b, _, none⟩) hb).trans h3
      replace h4 := (MJ.out.u.cell (p := ⟨b, _, none⟩) hb).trans h4
      replace h5 := h5.below MJ.out.u
      generalize xs[j] = s at *
      obtain ⟨kind, at_, n, x, S, sc, zs⟩ := s
      simp only at h0 h1 h2 h3 h4
      rw [← Nat.add_assoc] at h1 h2 h3 h4
      have H5 := Lib.hid h5
      clear h5
      by_cases hz : 20 < zs.length
      · have hu := Lib.hid (MJ.out.u.trans ((below_new wr (.cells #[.int .u8 kind, .int .i64 at_, .int .i64 n, .int .i64 x, .slice S zs.length sc] 56)).mono MJ.out.u.size))
        clear MJ
        go_wp2_with fail
        refine (HL.out _).mono ?_
        rintro e w3 ⟨rfl, kk⟩
        have HBz := Lib.hid (hu.out.trans (kk.mono hu.out.size))
        clear kk
        go_wp2_with fail
        go_ret
        exact ⟨rfl, HBz.out⟩
      · have hb2 := below_two wr (.cells #[.int .u8 kind, .int .i64 at_, .int .i64 n, .int .i64 x, .slice S zs.length sc] 56) (.cells #[.int .i64 0, .int .i64 0, .int .i64 0, .pointer none] 27)
        obtain ⟨q1, q2⟩ := two_heap wr (.cells #[.int .u8 kind, .int .i64 at_, .int .i64 n, .int .i64 x, .slice S zs.length sc] 56) (.cells #[.int .i64 0, .int .i64 0, .int .i64 0, .pointer none] 27)
        have M1 := Lib.hid (show S4 w _ g wr.heap.size (wr.heap.size + 1) A c l t p kind at_ n x S sc zs from ⟨MJ.out.next hb2, fun k hk => by
          obtain ⟨b, o, e, h1, h2⟩ := MJ.out.s.rd.below hb2 k hk
          exact ⟨b, o, e, Nat.lt_succ_of_lt h1, h2⟩, q1, ⟨_, _, _, _, q2⟩, Nat.lt_succ_of_lt MJ.out.lt, H5.out.sl.below hb2⟩)
        have hkd : kind ≤ 255 := H5.out.kind
        have ha1 : at_ ≤ 9223372036854775807 := H5.out.a1
        have hn1 : n ≤ 9223372036854775807 := H5.out.n1
        have hx0 : -9223372036854775808 ≤ x := H5.out.x0
        have hx1 : x ≤ 9223372036854775807 := H5.out.x1
        obtain ⟨z0, z1, z2, z3, z4⟩ := M1.out.cells
        clear hb2 q1 q2 MJ H5
        go_upto_block 2 with fail
        obtain ⟨W3, hW3⟩ : ∃ W, (wr.alloc (.cells #[.int .u8 kind, .int .i64 at_, .int .i64 n, .int .i64 x, .slice S zs.length sc] 56)).alloc (.cells #[.int .i64 0, .int .i64 0, .int .i64 0, .pointer none] 27) = W := ⟨_, rfl⟩
        obtain ⟨gn, hgn⟩ : ∃ gn, wr.heap.size + 1 = gn := ⟨_, rfl⟩
        obtain ⟨sb, hsb⟩ : ∃ sb, wr.heap.size = sb := ⟨_, rfl⟩
        rw [hW3] at M1 ⊢
        rw [hgn] at M1 ⊢
        rw [hsb] at M1 ⊢
        rw [hW3, hsb] at z0 z1 z2 z3 z4
        clear hW3 hgn hsb
        go_cut [7, 11, 12] (fun s7 s11 s12 wx => ∃ (r : List Int) (f : Int) (t2 : T) (p2 A2 : Option Addr) (c2 : Nat), s7 = .int .i64 f ∧ s11 = .slice A2 r.length c2 ∧ s12 = .int .i64 f ∧ Hid (A4 w wx g gn A c l t p r t2 p2 A2 c2))
        case first =>
          go_upto_if 44 with fail
          clear z0 z1 z2 z3 z4
          rcases (show (kind : Int) % 4 = 0 ∨ (kind : Int) % 4 = 1 ∨ (kind : Int) % 4 = 2 ∨ (kind : Int) % 4 = 3 by omega) with hq | hq | hq | hq
          · -- insert
            have e0 : ((kind : Int) % 4 == 0) = true := by rw [hq]; rfl
            have e1 : ((kind : Int) % 4 == 1) = false := by rw [hq]; rfl
            have e2 : ((kind : Int) % 4 == 2) = false := by rw [hq]; rfl
            have e3 : ((kind : Int) % 4 == 3) = false := by rw [hq]; rfl
            clear hq
            have hVD := Lib.hid (insR_vd M1.out.m.v at_ (s := zs))
            have HR := Lib.hid (refIns_any M1.out.m.s M1.out.sl M1.out.m.v at_ ha1)
            obtain ⟨y0, y1, y2, y3, y4⟩ := M1.out.cells
            go_wp2_with fail
            refine HR.out.mono ?_
            rintro e w4 ⟨A2, c2, rfl, hs2, kk, fa⟩
            have M4 := Lib.hid (M1.out.next kk)
            have FA := Lib.hid (show ∀ a, A2 = some a → gn < a.block from fun a ha => Nat.lt_of_lt_of_le M1.out.gnlt (fa a ha))
            have S2 := Lib.hid hs2
            clear hs2 kk fa HR y0 y1 y2 y3 y4 M1
            obtain ⟨y0, y1, y2, y3, y4⟩ := M4.out.cells
            obtain ⟨x0, x1, x2, x3⟩ := M4.out.m.r.cells
            have hI := ins_any at_ S sc zs M4.out.sl.rd M4.out.sl.le M4.out.sl.max M4.out.m.r.nd M4.out.m.r.ls.bal (ls_ok M4.out.m.r.ls M4.out.m.v) ha1
            rw [M4.out.m.r.ls.list] at hI
            have HI := Lib.hid hI
            clear hI
            go_wp2_with fail
            refine HI.out.mono ?_
            rintro e w5 ⟨t2, p2, hs5, rfl, hn5, kk⟩
            have M5 := Lib.hid (M4.out.next kk)
            have AF := Lib.hid (M5.out.set hn5 hs5 (S2.out.below kk) hVD.out FA.out)
            obtain ⟨a0, a1, a2, a3, f0, f1, f2, f3, f4, f5, f6, f7⟩ := M5.out.rm.open_
            clear hs5 hn5 kk HI M4 M5 S2 FA y0 y1 y2 y3 y4 x0 x1 x2 x3
            go_wp2_with fail
            go_meet
            exact ⟨(insR l at_ zs).1, (insR l at_ zs).2, t2, p2, A2, c2, rfl, rfl, rfl, AF⟩
          · -- remove
            have e0 : ((kind : Int) % 4 == 0) = false := by rw [hq]; rfl
            have e1 : ((kind : Int) % 4 == 1) = true := by rw [hq]; rfl
            have e2 : ((kind : Int) % 4 == 2) = false := by rw [hq]; rfl
            have e3 : ((kind : Int) % 4 == 3) = false := by rw [hq]; rfl
            clear hq
            have hVD := Lib.hid (remR_vd M1.out.m.v at_ n)
            have HR := Lib.hid (refRem_any M1.out.m.s at_ n ha1 hn1 M1.out.m.v.len)
            obtain ⟨y0, y1, y2, y3, y4⟩ := M1.out.cells
            go_wp2_with fail
            refine HR.out.mono ?_
            rintro e w4 ⟨A2, c2, rfl, hs2, kk, fa⟩
            have M4 := Lib.hid (M1.out.next kk)
            have FA := Lib.hid (show ∀ a, A2 = some a → gn < a.block from fun a ha => Nat.lt_of_lt_of_le M1.out.gnlt (fa a ha))
            have S2 := Lib.hid hs2
            clear hs2 kk fa HR y0 y1 y2 y3 y4 M1
            obtain ⟨y0, y1, y2, y3, y4⟩ := M4.out.cells
            obtain ⟨x0, x1, x2, x3⟩ := M4.out.m.r.cells
            have hI := rem_any at_ n M4.out.m.r.nd M4.out.m.r.ls.bal (ls_ok M4.out.m.r.ls M4.out.m.v) ha1
            rw [M4.out.m.r.ls.list] at hI
            have HI := Lib.hid hI
            clear hI
            go_wp2_with fail
            refine HI.out.mono ?_
            rintro e w5 ⟨t2, p2, hs5, rfl, hn5, kk⟩
            have M5 := Lib.hid (M4.out.next kk)
            have AF := Lib.hid (M5.out.set hn5 hs5 (S2.out.below kk) hVD.out FA.out)
            obtain ⟨a0, a1, a2, a3, f0, f1, f2, f3, f4, f5, f6, f7⟩ := M5.out.rm.open_
            clear hs5 hn5 kk HI M4 M5 S2 FA y0 y1 y2 y3 y4 x0 x1 x2 x3
            go_wp2_with fail
            go_meet
            exact ⟨(remR l at_ n).1, (remR l at_ n).2, t2, p2, A2, c2, rfl, rfl, rfl, AF⟩
          · -- move
            have e0 : ((kind : Int) % 4 == 0) = false := by rw [hq]; rfl
            have e1 : ((kind : Int) % 4 == 1) = false := by rw [hq]; rfl
            have e2 : ((kind : Int) % 4 == 2) = true := by rw [hq]; rfl
            have e3 : ((kind : Int) % 4 == 3) = false := by rw [hq]; rfl
            clear hq
            have hVD := Lib.hid (movR_vd M1.out.m.v at_ n x)
            have HR := Lib.hid (refMov_any M1.out.m.s at_ n x ha1 hn1 hx1 M1.out.m.v.len)
            obtain ⟨y0, y1, y2, y3, y4⟩ := M1.out.cells
            go_wp2_with fail
            refine HR.out.mono ?_
            rintro e w4 ⟨A2, c2, rfl, hs2, kk, fa⟩
            have M4 := Lib.hid (M1.out.next kk)
            have FA := Lib.hid (show ∀ a, A2 = some a → gn < a.block from fun a ha => Nat.lt_of_lt_of_le M1.out.gnlt (fa a ha))
            have S2 := Lib.hid hs2
            clear hs2 kk fa HR y0 y1 y2 y3 y4 M1
            obtain ⟨y0, y1, y2, y3, y4⟩ := M4.out.cells
            obtain ⟨x0, x1, x2, x3⟩ := M4.out.m.r.cells
            have hI := mov_any at_ n x M4.out.m.r.nd M4.out.m.r.ls.bal (ls_ok M4.out.m.r.ls M4.out.m.v) ha1 hx1
            rw [M4.out.m.r.ls.list] at hI
            have HI := Lib.hid hI
            clear hI
            go_wp2_with fail
            refine HI.out.mono ?_
            rintro e w5 ⟨t2, p2, hs5, rfl, hn5, kk⟩
            have M5 := Lib.hid (M4.out.next kk)
            have AF := Lib.hid (M5.out.set hn5 hs5 (S2.out.below kk) hVD.out FA.out)
            obtain ⟨a0, a1, a2, a3, f0, f1, f2, f3, f4, f5, f6, f7⟩ := M5.out.rm.open_
            clear hs5 hn5 kk HI M4 M5 S2 FA y0 y1 y2 y3 y4 x0 x1 x2 x3
            go_wp2_with fail
            go_meet
            exact ⟨(movR l at_ n x).1, (movR l at_ n x).2, t2, p2, A2, c2, rfl, rfl, rfl, AF⟩
          · -- set
            have e0 : ((kind : Int) % 4 == 0) = false := by rw [hq]; rfl
            have e1 : ((kind : Int) % 4 == 1) = false := by rw [hq]; rfl
            have e2 : ((kind : Int) % 4 == 2) = false := by rw [hq]; rfl
            have e3 : ((kind : Int) % 4 == 3) = true := by rw [hq]; rfl
            clear hq
            have hVD := setR_vd M1.out.m.v at_ x
            obtain ⟨l', hl', hS⟩ := refSet_any M1.out.m.s M1.out.m.v at_ x
            have hI0 := fun (w4 : World) (h : S4 w w4 g sb gn A c l t p kind at_ n x S sc zs) => set_any at_ x h.m.r.nd h.m.r.ls.bal (ls_ok h.m.r.ls h.m.v) ha1 hx0 hx1
            rw [show t.list = l from M1.out.m.r.ls.list] at hI0
            have hE := setR_err l at_ x
            generalize setR l at_ x = R at *
            obtain ⟨r, f⟩ := R
            have HVD := Lib.hid hVD
            have HR := Lib.hid hS
            have HLL := Lib.hid hl'
            have HI0 := Lib.hid hI0
            have HE := Lib.hid hE
            clear hS hl' hI0 hE hVD
            obtain ⟨y0, y1, y2, y3, y4⟩ := M1.out.cells
            go_wp2_with fail
            refine HR.out.mono ?_
            rintro e w4 ⟨A2, c2, rfl, hs2, kk, fa⟩
            have M4 := Lib.hid (M1.out.next kk)
            have FA := Lib.hid (show f = 0 → ∀ a, A2 = some a → gn < a.block from fun h a ha => Nat.lt_of_lt_of_le M1.out.gnlt (fa h a ha))
            have S2 := Lib.hid hs2
            clear hs2 kk fa HR y0 y1 y2 y3 y4 M1
            obtain ⟨y0, y1, y2, y3, y4⟩ := M4.out.cells
            obtain ⟨x0, x1, x2, x3⟩ := M4.out.m.r.cells
            have HI := Lib.hid (HI0.out w4 M4.out)
            clear HI0
            go_wp2_with fail
            refine HI.out.mono ?_
            rintro e w5 ⟨t2, p2, hs5, rfl, hn5, kk⟩
            have M5 := Lib.hid (M4.out.next kk)
            have HN := Lib.hid hn5
            have HS5 := Lib.hid hs5
            have S3 := Lib.hid (S2.out.below kk)
            obtain ⟨a0, a1, a2, a3, f0, f1, f2, f3, f4, f5, f6, f7⟩ := M5.out.rm.open_
            clear hs5 hn5 kk HI M4 S2 y0 y1 y2 y3 y4 x0 x1 x2 x3
            by_cases hf : f = 0
            · have h1 := HLL.out hf
              subst h1
              have AF := Lib.hid (M5.out.set HN.out HS5.out S3.out HVD.out (FA.out hf))
              subst hf
              clear HN HS5 S3 FA HLL HE M5
              go_wp2_with fail
              go_meet
              exact ⟨l', 0, t2, p2, A2, c2, rfl, rfl, rfl, AF⟩
            · have h1 : r = [] := HE.out hf
              subst h1
              have AF := Lib.hid (M5.out.set HN.out HS5.out (sl_none _) HVD.out (fun a ha => by cases ha))
              have e1 : (f == 0) = false := by simpa using hf
              clear HN HS5 S3 FA HLL HE M5 hf
              go_wp2_with fail
              go_meet
              exact ⟨[], f, t2, p2, none, 0, rfl, rfl, rfl, AF⟩
        case rest =>
          obtain ⟨r, f, t2, p2, A2, c2, rfl, rfl, rfl, AF⟩ := hcut
          clear M1 ha1 hn1 hx0 hx1 hkd z0 z1 z2 z3 z4
          obtain ⟨x0, x1, x2, x3⟩ := AF.out.n.cells
          have HS := Lib.hid (AF.out.n.same (c := c2) (f := f) AF.out.v2 AF.out.s2.rd rfl)
          go_wp2_with fail
          refine HS.out.mono ?_
          rintro e w6 ⟨rfl, kk⟩
          have A6 := Lib.hid (AF.out.next kk)
          clear kk AF HS x0 x1 x2 x3
          obtain ⟨x0, x1, x2, x3⟩ := A6.out.m.r.cells
          have HS := Lib.hid (A6.out.m.r.same (c := c) (f := 0) A6.out.m.v A6.out.m.s.rd rfl)
          go_wp2_with fail
          refine HS.out.mono ?_
          rintro e w7 ⟨rfl, kk⟩
          have A7 := Lib.hid (A6.out.next kk)
          clear kk A6 HS x0 x1 x2 x3
          by_cases hf : f = 0
          · subst hf
            obtain ⟨x0, x1, x2, x3⟩ := A7.out.n.cells
            have hroom : Room w7 g := ⟨_, _, _, _, A7.out.m.r.box⟩
            obtain ⟨a0, a1, a2, a3, f0, f1, f2, f3, f4, f5, f6, f7⟩ := hroom.open_
            have M8 := Lib.hid A7.out.take
            clear A7 hroom
            go_upto_region 35 with fail
            obtain ⟨W8, hW8⟩ : ∃ W, ((((w7.setCell ⟨g, 0, none⟩ (.int .i64 t2.count)).setCell ⟨g, 1, none⟩ (.int .i64 t2.total)).setCell ⟨g, 2, none⟩ (.int .i64 t2.depth)).setCell ⟨g, 3, none⟩ (.pointer p2)) = W := ⟨_, rfl⟩
            rw [hW8] at M8 ⊢
            clear hW8 a0 a1 a2 a3 f0 f1 f2 f3 f4 f5 f6 f7 x0 x1 x2 x3
            go_wp2_with fail
            go_roundw
            case rel => exact ⟨j + 1, r, t2, p2, A2, c2, by omega, rfl, by go_num, M8⟩
            case measure => simp [intOf]; omega
          · have e1 : (f == 0) = false := by simpa using hf
            have M8 := Lib.hid A7.out.m
            clear A7
            go_wp2_with fail
            go_roundw
            case rel => exact ⟨j + 1, l, t, p, A, c, by omega, rfl, by go_num, M8⟩
            case measure => simp [intOf]; omega
    · go_wp2_with fail
      refine (HL.out _).mono ?_
      rintro e w3 ⟨rfl, kk⟩
      have HBz := Lib.hid (MJ.out.u.trans (kk.mono MJ.out.u.size))
      clear kk
      go_wp2_with fail
      go_ret
      exact ⟨rfl, HBz.out⟩
end Go.Proofs.Ytfkjnepafgehiaa
