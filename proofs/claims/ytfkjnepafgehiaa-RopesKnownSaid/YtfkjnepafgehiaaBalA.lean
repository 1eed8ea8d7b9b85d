/- The walk of balance. -/
import Derived.Test.YtfkjnepafgehiaaClosW
import Derived.RegionTactic
import Derived.Deep.DeepCutAuto
namespace Go.Proofs.Ytfkjnepafgehiaa
open Go.RowKit

/-- what balance makes of two sides -/
structure Bl (l : T) (s : Int) (r : T) (t : T) : Prop where
  list : t.list = l.list ++ s :: r.list
  bal : t.Bal
  dep : BalD l.depth r.depth t.depth

theorem bl_near {l r : T} (s : Int) (hl : l.Bal) (hr : r.Bal) (h1 : l.depth ≤ r.depth + 1) (h2 : r.depth ≤ l.depth + 1) : Bl l s r (T.node l s r) :=
  ⟨rfl, ⟨hl, hr, h1, h2⟩, .inl ⟨h1, h2, rfl⟩⟩
theorem bl_62 {ll x1 x2 r : T} {ls x : Int} (s : Int) (hl : (T.node ll ls (T.node x1 x x2)).Bal) (hr : r.Bal) (h1 : (T.node ll ls (T.node x1 x x2)).depth = r.depth + 2) (h2 : ll.depth < (T.node x1 x x2).depth) :
    Bl (T.node ll ls (T.node x1 x x2)) s r (T.node (T.node ll ls x1) x (T.node x2 s r)) := by
  obtain ⟨a, ⟨b, c, d, e⟩, f, g⟩ := hl
  simp only [T.depth] at *
  refine ⟨by simp [T.list], ⟨⟨a, b, by omega, by omega⟩, ⟨c, hr, by omega, by omega⟩, by simp only [T.depth]; omega, by simp only [T.depth]; omega⟩, ?_⟩
  unfold BalD
  simp only [T.depth]
  omega
theorem bl_64 {ll lr r : T} {ls : Int} (s : Int) (hl : (T.node ll ls lr).Bal) (hr : r.Bal) (h1 : (T.node ll ls lr).depth = r.depth + 2) (h2 : ¬ ll.depth < lr.depth) :
    Bl (T.node ll ls lr) s r (T.node ll ls (T.node lr s r)) := by
  obtain ⟨a, b, f, g⟩ := hl
  simp only [T.depth] at *
  refine ⟨by simp [T.list], ⟨a, ⟨b, hr, by omega, by omega⟩, by simp only [T.depth]; omega, by simp only [T.depth]; omega⟩, ?_⟩
  unfold BalD
  simp only [T.depth]
  omega
theorem bl_65 {l x1 x2 rr : T} {rs x : Int} (s : Int) (hl : l.Bal) (hr : (T.node (T.node x1 x x2) rs rr).Bal) (h1 : (T.node (T.node x1 x x2) rs rr).depth = l.depth + 2) (h2 : rr.depth < (T.node x1 x x2).depth) :
    Bl l s (T.node (T.node x1 x x2) rs rr) (T.node (T.node l s x1) x (T.node x2 rs rr)) := by
  obtain ⟨⟨b, c, d, e⟩, a, f, g⟩ := hr
  simp only [T.depth] at *
  refine ⟨by simp [T.list], ⟨⟨hl, b, by omega, by omega⟩, ⟨c, a, by omega, by omega⟩, by simp only [T.depth]; omega, by simp only [T.depth]; omega⟩, ?_⟩
  unfold BalD
  simp only [T.depth]
  omega
theorem bl_66 {l rl rr : T} {rs : Int} (s : Int) (hl : l.Bal) (hr : (T.node rl rs rr).Bal) (h1 : (T.node rl rs rr).depth = l.depth + 2) (h2 : ¬ rr.depth < rl.depth) :
    Bl l s (T.node rl rs rr) (T.node (T.node l s rl) rs rr) := by
  obtain ⟨a, b, f, g⟩ := hr
  simp only [T.depth] at *
  refine ⟨by simp [T.list], ⟨⟨hl, a, by omega, by omega⟩, b, by simp only [T.depth]; omega, by simp only [T.depth]; omega⟩, ?_⟩
  unfold BalD
  simp only [T.depth]
  omega

theorem gives_imp {P Q : T → Prop} (h : ∀ t, P t → Q t) {w : World} {e : Ending} {w' : World} (hg : Gives P w e w') : Gives Q w e w' := by
  obtain ⟨t, p, h1, h2⟩ := hg
  exact ⟨t, p, h t h1, h2⟩

/-- memory ahead of balance's choice -/
structure BalW (w : World) (l : T) (s : Int) (r : T) (pl pr : Option Addr) (g h : Nat) (W : World) : Prop where
  a : W.heap[g]? = some (.cells #[.pointer pl] 25 (0, 0))
  b : W.heap[h]? = some (.cells #[.pointer pr] 25 (0, 0))
  x : W.heap[w.heap.size]? = some (.cells (rc l.count l.total l.depth pl) 27 (0, 0))
  y : W.heap[w.heap.size + 1]? = some (.cells #[.int .i64 s] 2 (0, 0))
  z : W.heap[w.heap.size + 1 + 1]? = some (.cells (rc r.count r.total r.depth pr) 27 (0, 0))
  q : Room W (w.heap.size + 1 + 1 + 1)
  u : Below w.heap.size w W
theorem below_six (w : World) (A B C D E F : Obj) : Below w.heap.size w ((((((w.alloc A).alloc B).alloc C).alloc D).alloc E).alloc F) :=
  ((((((Below.refl _ _).alloc (Nat.le_refl _) _).alloc (by simp) _).alloc (by simp; omega) _).alloc (by simp; omega) _).alloc (by simp; omega) _).alloc (by simp; omega) _
theorem balW_1 (w : World) (l : T) (s : Int) (r : T) (pl pr : Option Addr) :
    BalW w l s r pl pr (w.heap.size + 1 + 1 + 1 + 1) (w.heap.size + 1 + 1 + 1 + 1 + 1) ((((((w.alloc (.cells (rc l.count l.total l.depth pl) 27)).alloc (.cells #[.int .i64 s] 2)).alloc (.cells (rc r.count r.total r.depth pr) 27)).alloc (.cells #[.int .i64 0, .int .i64 0, .int .i64 0, .pointer none] 27)).alloc (.cells #[.pointer pl] 25)).alloc (.cells #[.pointer pr] 25)).drew := by
  refine ⟨?_, ?_, ?_, ?_, ?_, ⟨.int .i64 0, .int .i64 0, .int .i64 0, .pointer none, ?_⟩, (below_six w _ _ _ _ _ _).drew⟩ <;> (show ((((((w.heap.push _).push _).push _).push _).push _).push _)[_]? = _; simp only [Array.getElem?_push, Array.size_push]; repeat (first | rw [if_pos (by omega)] | rw [if_neg (by omega)] | rw [if_pos trivial]))
theorem balW_2 (w : World) (l : T) (s : Int) (r : T) (pl pr : Option Addr) :
    BalW w l s r pl pr (w.heap.size + 1 + 1 + 1 + 1 + 1) (w.heap.size + 1 + 1 + 1 + 1) ((((((w.alloc (.cells (rc l.count l.total l.depth pl) 27)).alloc (.cells #[.int .i64 s] 2)).alloc (.cells (rc r.count r.total r.depth pr) 27)).alloc (.cells #[.int .i64 0, .int .i64 0, .int .i64 0, .pointer none] 27)).alloc (.cells #[.pointer pr] 25)).alloc (.cells #[.pointer pl] 25)).drew := by
  refine ⟨?_, ?_, ?_, ?_, ?_, ⟨.int .i64 0, .int .i64 0, .int .i64 0, .pointer none, ?_⟩, (below_six w _ _ _ _ _ _).drew⟩ <;> (show ((((((w.heap.push _).push _).push _).push _).push _).push _)[_]? = _; simp only [Array.getElem?_push, Array.size_push]; repeat (first | rw [if_pos (by omega)] | rw [if_neg (by omega)] | rw [if_pos trivial]))

theorem BalW.drewN {w W : World} {l r : T} {s : Int} {pl pr : Option Addr} {g h : Nat} (n : Nat) (hw : BalW w l s r pl pr g h W) : BalW w l s r pl pr g h (W.drewN n) :=
  ⟨hw.a, hw.b, hw.x, hw.y, hw.z, hw.q, ⟨hw.u.os, hw.u.tape, hw.u.output, hw.u.size, hw.u.block⟩⟩

set_option maxHeartbeats 4000000 in
theorem balance_any {l r : T} {s : Int} {pl pr : Option Addr} {w : World} (hl : Nd w l pl) (hr : Nd w r pr) (bl : l.Bal) (br : r.Bal) (h1 : l.depth ≤ r.depth + 2) (h2 : r.depth ≤ l.depth + 2) (ho : Ok (l.list ++ s :: r.list)) :
    Calls Try.prog 60 #[.agg #[.int .i64 l.count, .int .i64 l.total, .int .i64 l.depth, .pointer pl], .int .i64 s, .agg #[.int .i64 r.count, .int .i64 r.total, .int .i64 r.depth, .pointer pr]] w (Gives (Bl l s r) w) := by
  have b1 := T.bounds (ho.mid).1
  have b2 := T.bounds (ho.mid).2.1
  obtain ⟨_, _, _, b1⟩ := b1
  obtain ⟨_, _, _, b2⟩ := b2
  have HL := Lib.hid hl
  have HR := Lib.hid hr
  have HBL := Lib.hid bl
  have HBR := Lib.hid br
  have HO := Lib.hid ho
  clear hl hr bl br ho
  go_enter Try.func60, Try.ntmps60
  go_upto_region 2 with fail
  go_cut [7, 8] (fun s7 s8 wx => ∃ g h : Nat, s7 = .pointer (some ⟨g, 0, none⟩) ∧ s8 = .pointer (some ⟨h, 0, none⟩) ∧ BalW w l s r pl pr g h wx)
  case first =>
    go_region
    all_goals
      go_wp2_with fail
      go_meet
      first | exact ⟨_, _, rfl, rfl, balW_1 w l s r pl pr⟩ | exact ⟨_, _, rfl, rfl, balW_2 w l s r pl pr⟩
  case rest =>
    obtain ⟨g, h, rfl, rfl, HW⟩ := hcut
    obtain ⟨x0, x1, x2, x3⟩ := rc_cells HW.x
    have y0 := cell_of_one HW.y
    obtain ⟨z0, z1, z2, z3⟩ := rc_cells HW.z
    have a0 := cell_of_one HW.a
    have c0 := cell_of_one HW.b
    have HQ := Lib.hid HW.q
    have HU := Lib.hid HW.u
    have HWH := Lib.hid HW
    clear HW
    by_cases hA : r.depth + 1 < l.depth
    · obtain ⟨ll, ls, lr, rfl⟩ := T.depth_pos (t := l) (by omega)
      have hn := HL.out
      obtain ⟨b, pll, plr, rfl, hn, hll, hlr⟩ := hn
      obtain ⟨i0, i1, i2, i3, i4, i5, i6, i7, i8⟩ := nd_cells (keep_heap HU.out hn)
      have HN := Lib.hid (keep_heap HU.out hn)
      have HLL := Lib.hid (hll.below HU.out)
      have HLR := Lib.hid (hlr.below HU.out)
      have HRR := Lib.hid (HR.out.below HU.out)
      clear hn hll hlr HL HR
      have e1 : (1 : Int) < ((T.node ll ls lr).depth : Int) - (r.depth : Int) := by omega
      have e2 : Hid ((T.node ll ls lr).depth = r.depth + 2) := Lib.hid (by omega)
      by_cases hB : ll.depth < lr.depth
      · obtain ⟨x1, x, x2, rfl⟩ := T.depth_pos (t := lr) (by omega)
        have HB := Lib.hid (bl_62 s HBL.out HBR.out e2.out hB)
        go_wp2_with fail
        go_quiet (fail)
        go_wp2_with fail
        refine (clos62 (BalW.drewN _ HWH.out).a (BalW.drewN _ HWH.out).y (BalW.drewN _ HWH.out).z HN.out (HLL.out.drewN _) (HLR.out.drewN _) (HRR.out.drewN _) (by rw [HB.out.list]; exact HO.out)).mono ?_
        rintro e w3 ⟨_, p3, rfl, rfl, n3, kk⟩
        have hR3 := (BalW.drewN _ HWH.out).q.keep kk
        have hb3 := (BalW.drewN _ HWH.out).u.trans (kk.mono (BalW.drewN _ HWH.out).u.size)
        obtain ⟨v0, v1, v2, v3, f0, f1, f2, f3, f4, f5, f6, f7⟩ := hR3.open_
        go_wp2_with fail
        exact bodyPost_ret (res_rope rfl (g := w.heap.size + 1 + 1 + 1) rfl (heap_set4 hR3)) rfl (gives_set HB.out n3 hR3 (below_set4 hb3 (by omega)))
      · have HB := Lib.hid (bl_64 s HBL.out HBR.out e2.out hB)
        go_wp2_with fail
        go_quiet (fail)
        go_wp2_with fail
        refine (clos64 (BalW.drewN _ HWH.out).a (BalW.drewN _ HWH.out).y (BalW.drewN _ HWH.out).z HN.out (HLL.out.drewN _) (HLR.out.drewN _) (HRR.out.drewN _) (by rw [HB.out.list]; exact HO.out)).mono ?_
        rintro e w3 ⟨_, p3, rfl, rfl, n3, kk⟩
        have hR3 := (BalW.drewN _ HWH.out).q.keep kk
        have hb3 := (BalW.drewN _ HWH.out).u.trans (kk.mono (BalW.drewN _ HWH.out).u.size)
        obtain ⟨v0, v1, v2, v3, f0, f1, f2, f3, f4, f5, f6, f7⟩ := hR3.open_
        go_wp2_with fail
        exact bodyPost_ret (res_rope rfl (g := w.heap.size + 1 + 1 + 1) rfl (heap_set4 hR3)) rfl (gives_set HB.out n3 hR3 (below_set4 hb3 (by omega)))
    · by_cases hC : l.depth + 1 < r.depth
      · obtain ⟨rl, rs, rr, rfl⟩ := T.depth_pos (t := r) (by omega)
        have hn := HR.out
        obtain ⟨b, prl, prr, rfl, hn, hrl, hrr⟩ := hn
        obtain ⟨i0, i1, i2, i3, i4, i5, i6, i7, i8⟩ := nd_cells (keep_heap HU.out hn)
        have HN := Lib.hid (keep_heap HU.out hn)
        have HRL := Lib.hid (hrl.below HU.out)
        have HRR := Lib.hid (hrr.below HU.out)
        have HLL := Lib.hid (HL.out.below HU.out)
        clear hn hrl hrr HL HR
        have e1 : (l.depth : Int) - ((T.node rl rs rr).depth : Int) < -1 := by omega
        have e3 : decide ((1 : Int) < (l.depth : Int) - ((T.node rl rs rr).depth : Int)) = false := by simp; omega
        have e2 : Hid ((T.node rl rs rr).depth = l.depth + 2) := Lib.hid (by omega)
        by_cases hB : rr.depth < rl.depth
        · obtain ⟨x1, x, x2, rfl⟩ := T.depth_pos (t := rl) (by omega)
          have HB := Lib.hid (bl_65 s HBL.out HBR.out e2.out hB)
          go_wp2_with fail
          go_quiet (fail)
          go_wp2_with fail
          go_quiet (fail)
          go_wp2_with fail
          refine (clos65 (BalW.drewN _ HWH.out).x (BalW.drewN _ HWH.out).y (BalW.drewN _ HWH.out).b HN.out (HLL.out.drewN _) (HRL.out.drewN _) (HRR.out.drewN _) (by rw [HB.out.list]; exact HO.out)).mono ?_
          rintro e w3 ⟨_, p3, rfl, rfl, n3, kk⟩
          have hR3 := (BalW.drewN _ HWH.out).q.keep kk
          have hb3 := (BalW.drewN _ HWH.out).u.trans (kk.mono (BalW.drewN _ HWH.out).u.size)
          obtain ⟨v0, v1, v2, v3, f0, f1, f2, f3, f4, f5, f6, f7⟩ := hR3.open_
          go_wp2_with fail
          exact bodyPost_ret (res_rope rfl (g := w.heap.size + 1 + 1 + 1) rfl (heap_set4 hR3)) rfl (gives_set HB.out n3 hR3 (below_set4 hb3 (by omega)))
        · have HB := Lib.hid (bl_66 s HBL.out HBR.out e2.out hB)
          go_wp2_with fail
          go_quiet (fail)
          go_wp2_with fail
          go_quiet (fail)
          go_wp2_with fail
          refine (clos66 (BalW.drewN _ HWH.out).x (BalW.drewN _ HWH.out).y (BalW.drewN _ HWH.out).b HN.out (HLL.out.drewN _) (HRL.out.drewN _) (HRR.out.drewN _) (by rw [HB.out.list]; exact HO.out)).mono ?_
          rintro e w3 ⟨_, p3, rfl, rfl, n3, kk⟩
          have hR3 := (BalW.drewN _ HWH.out).q.keep kk
          have hb3 := (BalW.drewN _ HWH.out).u.trans (kk.mono (BalW.drewN _ HWH.out).u.size)
          obtain ⟨v0, v1, v2, v3, f0, f1, f2, f3, f4, f5, f6, f7⟩ := hR3.open_
          go_wp2_with fail
          exact bodyPost_ret (res_rope rfl (g := w.heap.size + 1 + 1 + 1) rfl (heap_set4 hR3)) rfl (gives_set HB.out n3 hR3 (below_set4 hb3 (by omega)))
      · have e3 : decide ((1 : Int) < (l.depth : Int) - (r.depth : Int)) = false := by simp; omega
        have e4 : decide ((l.depth : Int) - (r.depth : Int) < -1) = false := by simp; omega
        have HLL := Lib.hid (HL.out.below HU.out)
        have HRR := Lib.hid (HR.out.below HU.out)
        clear HL HR
        have HB := Lib.hid (bl_near s HBL.out HBR.out (by omega) (by omega))
        go_wp2_with fail
        go_quiet (fail)
        go_wp2_with fail
        go_quiet (fail)
        go_wp2_with fail
        refine (clos61 (BalW.drewN _ HWH.out).x (BalW.drewN _ HWH.out).y (BalW.drewN _ HWH.out).z (HLL.out.drewN _) (HRR.out.drewN _) (by rw [HB.out.list]; exact HO.out)).mono ?_
        rintro e w3 ⟨_, p3, rfl, rfl, n3, kk⟩
        have hR3 := (BalW.drewN _ HWH.out).q.keep kk
        have hb3 := (BalW.drewN _ HWH.out).u.trans (kk.mono (BalW.drewN _ HWH.out).u.size)
        obtain ⟨v0, v1, v2, v3, f0, f1, f2, f3, f4, f5, f6, f7⟩ := hR3.open_
        go_wp2_with fail
        exact bodyPost_ret (res_rope rfl (g := w.heap.size + 1 + 1 + 1) rfl (heap_set4 hR3)) rfl (gives_set HB.out n3 hR3 (below_set4 hb3 (by omega)))
end Go.Proofs.Ytfkjnepafgehiaa
