/- The walk of lives. -/
import Derived.Test.YtfkjnepafgehiaaLvAux
namespace Go.Proofs.Ytfkjnepafgehiaa
open Go.RowKit

theorem Bs.nil {w W : World} (h : Below w.heap.size w W) : Bs w W [] := ⟨h, by simp, List.Pairwise.nil⟩
/-- the four variables of lives -/
structure L4 (w W : World) (g1 g8 g9 g11 : Nat) (t : T) (p : Option Addr) (a : T) (pa : Option Addr) (b : T) (pb : Option Addr) (c : T) (pc : Option Addr) : Prop where
  x1 : W.heap[g1]? = some (.cells (rc t.count t.total t.depth p) 27 (0, 0))
  x8 : W.heap[g8]? = some (.cells (rc a.count a.total a.depth pa) 27 (0, 0))
  x9 : W.heap[g9]? = some (.cells (rc b.count b.total b.depth pb) 27 (0, 0))
  x11 : W.heap[g11]? = some (.cells (rc c.count c.total c.depth pc) 27 (0, 0))
  n1 : Nd W t p
  n8 : Nd W a pa
  n9 : Nd W b pb
  n11 : Nd W c pc
  u : Below w.heap.size w W
  d : g1 ≠ g8 ∧ g1 ≠ g9 ∧ g1 ≠ g11 ∧ g8 ≠ g9 ∧ g8 ≠ g11 ∧ g9 ≠ g11
  lo : w.heap.size ≤ g8 ∧ w.heap.size ≤ g9 ∧ w.heap.size ≤ g11
section
variable {w W W' : World} {g1 g8 g9 g11 : Nat} {t a b c m : T} {p pa pb pc pm : Option Addr}
theorem L4.next (h : L4 w W g1 g8 g9 g11 t p a pa b pb c pc) (kk : Below W.heap.size W W') : L4 w W' g1 g8 g9 g11 t p a pa b pb c pc :=
  ⟨keep_heap kk h.x1, keep_heap kk h.x8, keep_heap kk h.x9, keep_heap kk h.x11, h.n1.below kk, h.n8.below kk, h.n9.below kk, h.n11.below kk, h.u.trans (kk.mono h.u.size), h.d, h.lo⟩
theorem L4.lit (h : L4 w W g1 g8 g9 g11 t p a pa b pb c pc) (o : Obj) : L4 w (W.alloc o) g1 g8 g9 g11 t p a pa b pb c pc := h.next ((Below.refl W.heap.size W).alloc (Nat.le_refl _) o)
theorem L4.set8 (h : L4 w W g1 g8 g9 g11 t p a pa b pb c pc) (hm : Nd W m pm) : L4 w ((((W.setCell ⟨g8, 0, none⟩ (.int .i64 m.count)).setCell ⟨g8, 1, none⟩ (.int .i64 m.total)).setCell ⟨g8, 2, none⟩ (.int .i64 m.depth)).setCell ⟨g8, 3, none⟩ (.pointer pm)) g1 g8 g9 g11 t p m pm b pb c pc := by
  obtain ⟨d1, d2, d3, d4, d5, d6⟩ := h.d
  have hr := room_of h.x8
  exact ⟨far_set4 d1 h.x1, heap_set4 hr, far_set4 (Ne.symm d4) h.x9, far_set4 (Ne.symm d5) h.x11, h.n1.set4 hr, hm.set4 hr, h.n9.set4 hr, h.n11.set4 hr, below_set4 h.u h.lo.1, h.d, h.lo⟩
theorem L4.set9 (h : L4 w W g1 g8 g9 g11 t p a pa b pb c pc) (hm : Nd W m pm) : L4 w ((((W.setCell ⟨g9, 0, none⟩ (.int .i64 m.count)).setCell ⟨g9, 1, none⟩ (.int .i64 m.total)).setCell ⟨g9, 2, none⟩ (.int .i64 m.depth)).setCell ⟨g9, 3, none⟩ (.pointer pm)) g1 g8 g9 g11 t p a pa m pm c pc := by
  obtain ⟨d1, d2, d3, d4, d5, d6⟩ := h.d
  have hr := room_of h.x9
  exact ⟨far_set4 d2 h.x1, far_set4 d4 h.x8, heap_set4 hr, far_set4 (Ne.symm d6) h.x11, h.n1.set4 hr, h.n8.set4 hr, hm.set4 hr, h.n11.set4 hr, below_set4 h.u h.lo.2.1, h.d, h.lo⟩
theorem L4.set11 (h : L4 w W g1 g8 g9 g11 t p a pa b pb c pc) (hm : Nd W m pm) : L4 w ((((W.setCell ⟨g11, 0, none⟩ (.int .i64 m.count)).setCell ⟨g11, 1, none⟩ (.int .i64 m.total)).setCell ⟨g11, 2, none⟩ (.int .i64 m.depth)).setCell ⟨g11, 3, none⟩ (.pointer pm)) g1 g8 g9 g11 t p a pa b pb m pm := by
  obtain ⟨d1, d2, d3, d4, d5, d6⟩ := h.d
  have hr := room_of h.x11
  exact ⟨far_set4 d3 h.x1, far_set4 d5 h.x8, far_set4 d6 h.x9, heap_set4 hr, h.n1.set4 hr, h.n8.set4 hr, h.n9.set4 hr, hm.set4 hr, below_set4 h.u h.lo.2.2, h.d, h.lo⟩
end
theorem lit_rd {W : World} {zs : List Int} {cs : Array Value} (h : ints zs = cs) : RdI (W.alloc (.cells cs 2)) (W.alloc (.cells cs 2)).heap.size (some ⟨W.heap.size, 0, none⟩) zs := RdI.lit h

def LivesOk : Prop := ∀ w : World, Calls Try.prog 9 #[] w fun e w' => e = .returned (.bool true) ∧ Below w.heap.size w w'
set_option maxRecDepth 100000 in
set_option maxHeartbeats 8000000 in
theorem lives_any : LivesOk := by
  intro w
  have hr0 := Lib.hid (RdI.lit (W := w) (t := 2) (cs := #[.int .i64 3, .int .i64 0, .int .i64 5, .int .i64 2]) (zs := l4) rfl)
  go_enter Try.func9, Try.ntmps9
  go_wp2_with fail
  refine (ex_of _ _ 4 hr0.out (by omega) (by decide)).mono ?_
  rintro e w1 ⟨t, p, hx, rfl, n1, kk⟩
  have HX := Lib.hid hx
  have B1 := Lib.hid ((Bs.nil (((Below.refl w.heap.size w).alloc (Nat.le_refl _) (.cells #[.int .i64 3, .int .i64 0, .int .i64 5, .int .i64 2] 2)).trans (kk.mono (by simp)))).push n1 w1.heap.size rfl)
  clear hr0 kk n1 hx
  go_wp2_with fail
  refine (ex_sum HX.out B1.out.nd).mono ?_
  rintro e w2 ⟨rfl, kk⟩
  have B2 := Lib.hid (B1.out.next kk)
  obtain ⟨x0, x1, x2, x3⟩ := B2.out.cells
  clear kk B1
  go_wp2_with fail
  refine (ex_find HX.out B2.out.nd).mono ?_
  rintro e w3 ⟨rfl, kk⟩
  have B3 := Lib.hid (B2.out.next kk)
  clear x0 x1 x2 x3 kk B2
  obtain ⟨x0, x1, x2, x3⟩ := B3.out.cells
  go_wp2_with fail
  refine (ex_split HX.out B3.out.nd).mono ?_
  rintro e w4 ⟨a, pa, b, pb, hs, rfl, na, nb, kk⟩
  have HS := Lib.hid hs
  have B4 := Lib.hid (((B3.out.next kk).push na w4.heap.size rfl).push (nb.below ((Below.refl w4.heap.size w4).alloc (Nat.le_refl _) (.cells #[.int .i64 a.count, .int .i64 a.total, .int .i64 a.depth, .pointer pa] 27))) (w4.heap.size + 1) (by simp))
  clear x0 x1 x2 x3 kk B3 na nb hs
  go_wp2_with fail
  refine (ex_join HS.out B4.out.swap.nd B4.out.nd).mono ?_
  rintro e w5 ⟨c, pc, hc, rfl, nc, kk⟩
  have HC := Lib.hid hc
  have B5 := Lib.hid ((B4.out.next kk).push nc w5.heap.size rfl)
  have hb := B5.out.b
  obtain ⟨d1, d2⟩ := List.pairwise_cons.1 B5.out.d
  obtain ⟨d3, d4⟩ := List.pairwise_cons.1 d2
  obtain ⟨d5, _⟩ := List.pairwise_cons.1 d4
  have M5 := Lib.hid (show L4 w (w5.alloc (.cells #[.int .i64 c.count, .int .i64 c.total, .int .i64 c.depth, .pointer pc] 27)) w1.heap.size w4.heap.size (w4.heap.size + 1) w5.heap.size t p a pa b pb c pc from
    ⟨(hb (w1.heap.size, t, p) (by simp)).2.1, (hb (w4.heap.size, a, pa) (by simp)).2.1, (hb (w4.heap.size + 1, b, pb) (by simp)).2.1, (hb (w5.heap.size, c, pc) (by simp)).2.1,
     (hb (w1.heap.size, t, p) (by simp)).2.2, (hb (w4.heap.size, a, pa) (by simp)).2.2, (hb (w4.heap.size + 1, b, pb) (by simp)).2.2, (hb (w5.heap.size, c, pc) (by simp)).2.2,
     B5.out.u, ⟨Ne.symm (d5 (w1.heap.size, t, p) (by simp)), Ne.symm (d3 (w1.heap.size, t, p) (by simp)), Ne.symm (d1 (w1.heap.size, t, p) (by simp)), Ne.symm (d3 (w4.heap.size, a, pa) (by simp)), Ne.symm (d1 (w4.heap.size, a, pa) (by simp)), Ne.symm (d1 (w4.heap.size + 1, b, pb) (by simp))⟩,
     ⟨(hb (w4.heap.size, a, pa) (by simp)).1, (hb (w4.heap.size + 1, b, pb) (by simp)).1, (hb (w5.heap.size, c, pc) (by simp)).1⟩⟩)
  have e1 : ((t.count : Int) != 4) = false := by rw [HX.out.count]; rfl
  have e2 : (t.total != 10) = false := by rw [HX.out.total]; rfl
  have e3 : ((t.depth : Int) != 3) = false := by rw [HX.out.dep]; rfl
  clear kk B4 nc hc B5 hb d1 d2 d3 d4 d5
  go_upto_region 6 with fail
  obtain ⟨V5, MV5, hV⟩ : ∃ V : World, Hid (L4 w V w1.heap.size w4.heap.size (w4.heap.size + 1) w5.heap.size t p a pa b pb c pc) ∧ V = w5.alloc (.cells #[.int .i64 c.count, .int .i64 c.total, .int .i64 c.depth, .pointer pc] 27) := ⟨_, M5, rfl⟩
  rw [← hV]
  obtain ⟨g1, hg1⟩ : ∃ g, w1.heap.size = g := ⟨_, rfl⟩
  obtain ⟨g8, hg8⟩ : ∃ g, w4.heap.size = g := ⟨_, rfl⟩
  obtain ⟨g9, hg9⟩ : ∃ g, g8 + 1 = g := ⟨_, rfl⟩
  obtain ⟨g11, hg11⟩ : ∃ g, w5.heap.size = g := ⟨_, rfl⟩
  rw [hg1, hg8, hg9, hg11] at MV5
  rw [hg1, hg8, hg9, hg11]
  clear M5 hV hg1 hg8 hg9 hg11
  obtain ⟨x0, x1, x2, x3⟩ := rc_cells MV5.out.x1
  go_wp2_with fail
  refine (len_below _ _ _ _ _).mono ?_
  rintro e w6 ⟨rfl, kk⟩
  have M6 := Lib.hid (MV5.out.next kk)
  clear x0 x1 x2 x3 kk MV5
  obtain ⟨x0, x1, x2, x3⟩ := rc_cells M6.out.x1
  go_wp2_with fail
  refine (total_below _ _ _ _ _).mono ?_
  rintro e w7 ⟨rfl, kk⟩
  have M7 := Lib.hid (M6.out.next kk)
  clear x0 x1 x2 x3 kk M6
  obtain ⟨x0, x1, x2, x3⟩ := rc_cells M7.out.x1
  go_wp2_with fail
  refine (depth_below _ _ _ _ _).mono ?_
  rintro e w8 ⟨rfl, kk⟩
  have M8 := Lib.hid (M7.out.next kk)
  clear x0 x1 x2 x3 kk M7
  obtain ⟨x0, x1, x2, x3⟩ := rc_cells M8.out.x8
  have HR := Lib.hid (lit_rd (W := w8) (zs := [3]) (cs := #[.int .i64 3]) rfl)
  have MA := Lib.hid (M8.out.lit (.cells #[.int .i64 3] 2))
  go_wp2_with fail
  refine (same_lit MA.out.n8 HS.out.a (vd_dec [3] (by decide)) HR.out rfl).mono ?_
  rintro e w9 ⟨rfl, kk⟩
  have M9 := Lib.hid (MA.out.next kk)
  clear x0 x1 x2 x3 kk M8 MA HR
  obtain ⟨x0, x1, x2, x3⟩ := rc_cells M9.out.x9
  have HR := Lib.hid (lit_rd (W := w9) (zs := [0, 5, 2]) (cs := #[.int .i64 0, .int .i64 5, .int .i64 2]) rfl)
  have MA := Lib.hid (M9.out.lit (.cells #[.int .i64 0, .int .i64 5, .int .i64 2] 2))
  go_wp2_with fail
  refine (same_lit MA.out.n9 HS.out.b (vd_dec [0, 5, 2] (by decide)) HR.out rfl).mono ?_
  rintro e w10 ⟨rfl, kk⟩
  have M10 := Lib.hid (MA.out.next kk)
  clear x0 x1 x2 x3 kk M9 MA HR
  obtain ⟨x0, x1, x2, x3⟩ := rc_cells M10.out.x11
  have HR := Lib.hid (lit_rd (W := w10) (zs := [0, 5, 2, 3]) (cs := #[.int .i64 0, .int .i64 5, .int .i64 2, .int .i64 3]) rfl)
  have MA := Lib.hid (M10.out.lit (.cells #[.int .i64 0, .int .i64 5, .int .i64 2, .int .i64 3] 2))
  go_wp2_with fail
  refine (same_lit MA.out.n11 HC.out (vd_dec [0, 5, 2, 3] (by decide)) HR.out rfl).mono ?_
  rintro e w11 ⟨rfl, kk⟩
  have M11 := Lib.hid (MA.out.next kk)
  clear x0 x1 x2 x3 kk M10 MA HR
  obtain ⟨x0, x1, x2, x3⟩ := rc_cells M11.out.x1
  have HR := Lib.hid (lit_rd (W := w11) (zs := [7]) (cs := #[.int .i64 7]) rfl)
  have MA := Lib.hid (M11.out.lit (.cells #[.int .i64 7] 2))
  go_wp2_with fail
  refine (ex_ins HX.out MA.out.n1 HR.out).mono ?_
  rintro e w12 ⟨m1, pm1, hm1, rfl, nm, kk⟩
  have HM1 := Lib.hid hm1
  have M12 := Lib.hid (MA.out.next kk)
  clear x0 x1 x2 x3 kk M11 hm1 MA HR
  obtain ⟨v0, v1, v2, v3, f0, f1, f2, f3, f4, f5, f6, f7⟩ := (room_of M12.out.x8).open_
  go_upto_region 9 with fail
  obtain ⟨V12, N12, hV⟩ : ∃ V : World, Hid (L4 w V g1 g8 g9 g11 t p m1 pm1 b pb c pc) ∧ V = _ := ⟨_, Lib.hid (M12.out.set8 nm), rfl⟩
  rw [← hV]
  clear hV nm M12 f0 f1 f2 f3 f4 f5 f6 f7
  obtain ⟨x0, x1, x2, x3⟩ := rc_cells N12.out.x1
  go_wp2_with fail
  refine (ex_rem HX.out N12.out.n1).mono ?_
  rintro e w13 ⟨m2, pm2, hm2, rfl, nm, kk⟩
  have HM2 := Lib.hid hm2
  have M13 := Lib.hid (N12.out.next kk)
  clear x0 x1 x2 x3 kk N12 hm2
  obtain ⟨v0, v1, v2, v3, f0, f1, f2, f3, f4, f5, f6, f7⟩ := (room_of M13.out.x9).open_
  go_upto_region 10 with fail
  obtain ⟨V13, N13, hV⟩ : ∃ V : World, Hid (L4 w V g1 g8 g9 g11 t p m1 pm1 m2 pm2 c pc) ∧ V = _ := ⟨_, Lib.hid (M13.out.set9 nm), rfl⟩
  rw [← hV]
  clear hV nm M13 f0 f1 f2 f3 f4 f5 f6 f7
  obtain ⟨x0, x1, x2, x3⟩ := rc_cells N13.out.x1
  go_wp2_with fail
  refine (ex_mov HX.out N13.out.n1).mono ?_
  rintro e w14 ⟨m3, pm3, hm3, rfl, nm, kk⟩
  have HM3 := Lib.hid hm3
  have M14 := Lib.hid (N13.out.next kk)
  clear x0 x1 x2 x3 kk N13 hm3
  obtain ⟨v0, v1, v2, v3, f0, f1, f2, f3, f4, f5, f6, f7⟩ := (room_of M14.out.x11).open_
  go_upto_region 11 with fail
  obtain ⟨V14, N14, hV⟩ : ∃ V : World, Hid (L4 w V g1 g8 g9 g11 t p m1 pm1 m2 pm2 m3 pm3) ∧ V = _ := ⟨_, Lib.hid (M14.out.set11 nm), rfl⟩
  rw [← hV]
  clear hV nm M14 f0 f1 f2 f3 f4 f5 f6 f7
  obtain ⟨x0, x1, x2, x3⟩ := rc_cells N14.out.x1
  go_wp2_with fail
  refine (ex_split2 HX.out).mono ?_
  rintro e w15 ⟨_, _, _, _, ⟨rfl, rfl⟩, rfl, _, _, kk⟩
  have M15 := Lib.hid (N14.out.next kk)
  clear x0 x1 x2 x3 kk N14
  obtain ⟨x0, x1, x2, x3⟩ := rc_cells M15.out.x1
  go_wp2_with fail
  refine (ex_set HX.out M15.out.n1).mono ?_
  rintro e w16 ⟨m4, pm4, hm4, rfl, _, kk⟩
  have HM4 := Lib.hid hm4
  have M16 := Lib.hid (M15.out.next kk)
  clear x0 x1 x2 x3 kk M15 hm4
  obtain ⟨x0, x1, x2, x3⟩ := rc_cells M16.out.x1
  have HR := Lib.hid (lit_rd (W := w16) (zs := [-1]) (cs := #[.int .i64 (-1)]) rfl)
  have MA := Lib.hid (M16.out.lit (.cells #[.int .i64 (-1)] 2))
  go_wp2_with fail
  refine (ex_ins2 HX.out MA.out.n1 HR.out).mono ?_
  rintro e w17 ⟨m5, pm5, hm5, rfl, nm, kk⟩
  have HM5 := Lib.hid hm5
  have M17 := Lib.hid (MA.out.next kk)
  clear x0 x1 x2 x3 kk M16 hm5 MA HR
  have MB := Lib.hid (M17.out.lit (.cells #[.int .i64 m5.count, .int .i64 m5.total, .int .i64 m5.depth, .pointer pm5] 27))
  clear nm M17
  go_upto_region 14 with fail
  obtain ⟨VV, NV, hV⟩ : ∃ V : World, Hid (L4 w V g1 g8 g9 g11 t p m1 pm1 m2 pm2 m3 pm3) ∧ V = w17.alloc (.cells #[.int .i64 m5.count, .int .i64 m5.total, .int .i64 m5.depth, .pointer pm5] 27) := ⟨_, MB, rfl⟩
  rw [← hV]
  clear hV MB
  obtain ⟨x0, x1, x2, x3⟩ := rc_cells NV.out.x8
  have HR := Lib.hid (lit_rd (W := VV) (zs := [3, 7, 0, 5, 2]) (cs := #[.int .i64 3, .int .i64 7, .int .i64 0, .int .i64 5, .int .i64 2]) rfl)
  have MA := Lib.hid (NV.out.lit (.cells #[.int .i64 3, .int .i64 7, .int .i64 0, .int .i64 5, .int .i64 2] 2))
  go_wp2_with fail
  refine (same_lit MA.out.n8 HM1.out (vd_dec [3, 7, 0, 5, 2] (by decide)) HR.out rfl).mono ?_
  rintro e w18 ⟨rfl, kk⟩
  have M18 := Lib.hid (MA.out.next kk)
  clear x0 x1 x2 x3 kk NV MA HR
  obtain ⟨x0, x1, x2, x3⟩ := rc_cells M18.out.x9
  have HR := Lib.hid (lit_rd (W := w18) (zs := [3, 2]) (cs := #[.int .i64 3, .int .i64 2]) rfl)
  have MA := Lib.hid (M18.out.lit (.cells #[.int .i64 3, .int .i64 2] 2))
  go_wp2_with fail
  refine (same_lit MA.out.n9 HM2.out (vd_dec [3, 2] (by decide)) HR.out rfl).mono ?_
  rintro e w19 ⟨rfl, kk⟩
  have M19 := Lib.hid (MA.out.next kk)
  clear x0 x1 x2 x3 kk M18 MA HR
  obtain ⟨x0, x1, x2, x3⟩ := rc_cells M19.out.x11
  have HR := Lib.hid (lit_rd (W := w19) (zs := [5, 2, 3, 0]) (cs := #[.int .i64 5, .int .i64 2, .int .i64 3, .int .i64 0]) rfl)
  have MA := Lib.hid (M19.out.lit (.cells #[.int .i64 5, .int .i64 2, .int .i64 3, .int .i64 0] 2))
  go_wp2_with fail
  refine (same_lit MA.out.n11 HM3.out (vd_dec [5, 2, 3, 0] (by decide)) HR.out rfl).mono ?_
  rintro e w20 ⟨rfl, kk⟩
  have M20 := Lib.hid (MA.out.next kk)
  clear x0 x1 x2 x3 kk M19 MA HR
  go_wp2_with fail
  go_ret
  exact ⟨rfl, M20.out.u⟩
end Go.Proofs.Ytfkjnepafgehiaa
