/- The law's lives: the chapter's examples hold. -/
import Derived.Test.YtejgcpohdbiaoaaLivA
namespace Go.Proofs.Ytejgcpohdbiaoaa
open Go.RowKit

/-- true is returned, and nothing that was there has changed -/
def YesB (w : World) (e : Ending) (w' : World) : Prop := e = .returned (.bool true) ∧ Below w.heap.size w w'
/-- what lives has in memory: four rows -/
structure Lv (w W : World) (A1 A2 A3 A4 : Option Addr) (l1 l2 l3 l4 : List Int) : Prop where
  a : SlI W A1 l1.length l1
  b : SlI W A2 l2.length l2
  c : SlI W A3 l3.length l3
  d : SlI W A4 l4.length l4
  u : Below w.heap.size w W
theorem Lv.next {w W W' : World} {A1 A2 A3 A4 : Option Addr} {l1 l2 l3 l4 : List Int} (h : Lv w W A1 A2 A3 A4 l1 l2 l3 l4) (hb : Below W.heap.size W W') : Lv w W' A1 A2 A3 A4 l1 l2 l3 l4 :=
  ⟨h.a.next hb, h.b.next hb, h.c.next hb, h.d.next hb, h.u.trans (hb.mono h.u.size)⟩
/-- two rows of numbers, two of steps -/
structure Lw (w W : World) (A1 A2 A3 A4 : Option Addr) (l1 l3 : List (Int × Int)) (l2 l4 : List Int) : Prop where
  a : SlP W A1 l1.length l1
  b : SlI W A2 l2.length l2
  c : SlP W A3 l3.length l3
  d : SlI W A4 l4.length l4
  u : Below w.heap.size w W
theorem Lw.next {w W W' : World} {A1 A2 A3 A4 : Option Addr} {l1 l3 : List (Int × Int)} {l2 l4 : List Int} (h : Lw w W A1 A2 A3 A4 l1 l3 l2 l4) (hb : Below W.heap.size W W') : Lw w W' A1 A2 A3 A4 l1 l3 l2 l4 :=
  ⟨h.a.next hb, h.b.next hb, h.c.next hb, h.d.next hb, h.u.trans (hb.mono h.u.size)⟩
/-- true is returned; what was there at W has not changed -/
theorem yesD_b {W V : World} {e : Ending} {w' : World} (h : YesD V e w') (hb : Below W.heap.size W V) : e = .returned (.bool true) ∧ Below W.heap.size W w' := by
  obtain ⟨he, m, rfl⟩ := h
  exact ⟨he, hb.trans ((below_drewN V m).mono hb.size)⟩
theorem sam (W : World) (zs : List Int) {A : Option Addr} {cs : Array Value} (h : (iv zs).toArray = cs) (hs : SlI W A zs.length zs) :
    Calls Try.prog 11 #[.slice A zs.length zs.length, .int .i64 0, .slice (some ⟨W.heap.size, 0, none⟩) zs.length zs.length, .int .i64 0] (W.alloc (.cells cs 3)) fun e w' => e = .returned (.bool true) ∧ Below W.heap.size W w' :=
  (same_any zs.length (hs.next (below_new W _)).rd (lit_sl W zs h hs.len).rd hs.len).mono fun _ _ h => yesD_b h (below_new W _)
theorem sam0 (W : World) {A : Option Addr} :
    Calls Try.prog 11 #[.slice A 0 0, .int .i64 0, .slice none 0 0, .int .i64 0] W fun e w' => e = .returned (.bool true) ∧ Below W.heap.size W w' :=
  (same_any (zs := []) 0 RdI.nil RdI.nil (by decide)).mono fun _ _ h => yesD_b h (Below.refl _ _)
theorem stp (W : World) (zs : List (Int × Int)) {A : Option Addr} {cs : Array Value} (h : (pv zs).toArray = cs) (hs : SlP W A zs.length zs) :
    Calls Try.prog 17 #[.slice A zs.length zs.length, .int .i64 0, .slice (some ⟨W.heap.size, 0, none⟩) zs.length zs.length, .int .i64 0] (W.alloc (.cells cs 52)) fun e w' => e = .returned (.bool true) ∧ Below W.heap.size W w' :=
  (steps_any zs.length (hs.next (below_new W _)).rd (lit_pr W 52 zs h hs.len).rd hs.len).mono fun _ _ h => yesD_b h (below_new W _)
set_option maxRecDepth 100000 in
set_option maxHeartbeats 4000000 in
theorem lives_any (w : World) : Calls Try.prog 9 #[] w (YesB w) := by
  go_enter Try.func9, Try.ntmps9
  go_wp2_with fail
  refine (ex1 _).mono ?_
  rintro e w1 ⟨A1, rfl, h1, k1⟩
  have M := Lib.hid (show Lv w w1 A1 none none none [1, 2, 4] [] [] [] from ⟨h1, SlI.none _, SlI.none _, SlI.none _, (below_new w _).trans (k1.mono (by simp))⟩)
  clear h1 k1
  go_wp2_with fail
  refine (ex2 _).mono ?_
  rintro e w2 ⟨A2, rfl, h1, k1⟩
  have M2 := M.out.next ((below_new w1 _).trans (k1.mono (by simp)))
  replace M := Lib.hid (show Lv w w2 A1 A2 none none [1, 2, 4] [0] [] [] from ⟨M2.a, h1, SlI.none _, SlI.none _, M2.u⟩)
  clear h1 k1 M2
  go_wp2_with fail
  refine (ex3 _).mono ?_
  rintro e w3 ⟨A3, rfl, h1, k1⟩
  have M2 := M.out.next ((below_new w2 _).trans (k1.mono (by simp)))
  replace M := Lib.hid (show Lv w w3 A1 A2 A3 none [1, 2, 4] [0] [0] [] from ⟨M2.a, M2.b, h1, SlI.none _, M2.u⟩)
  clear h1 k1 M2
  go_wp2_with fail
  refine (ex4 _).mono ?_
  rintro e w4 ⟨A4, rfl, h1, k1⟩
  have M2 := M.out.next k1
  replace M := Lib.hid (show Lv w w4 A1 A2 A3 A4 [1, 2, 4] [0] [0] [] from ⟨M2.a, M2.b, M2.c, h1, M2.u⟩)
  clear h1 k1 M2
  go_wp2_with fail
  refine (sam w4 [1, 2, 4] rfl M.out.a).mono ?_
  rintro e w5 ⟨rfl, k1⟩
  replace M := Lib.hid (M.out.next k1)
  clear k1
  go_wp2_with fail
  refine (sam w5 [0] rfl M.out.b).mono ?_
  rintro e w6 ⟨rfl, k1⟩
  replace M := Lib.hid (M.out.next k1)
  clear k1
  go_wp2_with fail
  refine (sam w6 [0] rfl M.out.c).mono ?_
  rintro e w7 ⟨rfl, k1⟩
  replace M := Lib.hid (M.out.next k1)
  clear k1
  go_wp2_with fail
  refine (sam0 w7).mono ?_
  rintro e w8 ⟨rfl, k1⟩
  have HU := Lib.hid (M.out.next k1).u
  clear k1 M
  go_wp2_with fail
  refine (ex5 _).mono ?_
  rintro e w9 ⟨A5, rfl, h1, k1⟩
  have M := Lib.hid (show Lw w w9 A5 none none none [(4, 1)] [] [] [] from ⟨h1, SlI.none _, SlP.none _, SlI.none _, HU.out.trans ((((below_new w8 _).trans ((below_new _ _).mono (by simp))).trans (k1.mono (by simp; omega))).mono HU.out.size)⟩)
  clear h1 k1 HU
  go_wp2_with fail
  refine (ex6 _).mono ?_
  rintro e w10 ⟨A6, rfl, h1, k1⟩
  have M2 := M.out.next (((below_new w9 _).trans ((below_new _ _).mono (by simp))).trans (k1.mono (by simp; omega)))
  replace M := Lib.hid (show Lw w w10 A5 A6 none none [(4, 1)] [] [3] [] from ⟨M2.a, h1, SlP.none _, SlI.none _, M2.u⟩)
  clear h1 k1 M2
  go_wp2_with fail
  refine (ex7 _).mono ?_
  rintro e w11 ⟨A7, rfl, h1, k1⟩
  have M2 := M.out.next (((below_new w10 _).trans ((below_new _ _).mono (by simp))).trans (k1.mono (by simp; omega)))
  replace M := Lib.hid (show Lw w w11 A5 A6 A7 none [(4, 1)] [(1, -1), (2, 1)] [3] [] from ⟨M2.a, M2.b, h1, SlI.none _, M2.u⟩)
  clear h1 k1 M2
  go_wp2_with fail
  refine (ex8 _ M.out.c).mono ?_
  rintro e w12 ⟨A8, rfl, h1, k1⟩
  have M2 := M.out.next ((below_new w11 _).trans (k1.mono (by simp)))
  replace M := Lib.hid (show Lw w w12 A5 A6 A7 A8 [(4, 1)] [(1, -1), (2, 1)] [3] [3, 2, 1] from ⟨M2.a, M2.b, M2.c, h1, M2.u⟩)
  clear h1 k1 M2
  go_wp2_with fail
  refine (stp w12 [(4, 1)] rfl M.out.a).mono ?_
  rintro e w13 ⟨rfl, k1⟩
  replace M := Lib.hid (M.out.next k1)
  clear k1
  go_wp2_with fail
  refine (sam w13 [3] rfl M.out.b).mono ?_
  rintro e w14 ⟨rfl, k1⟩
  replace M := Lib.hid (M.out.next k1)
  clear k1
  go_wp2_with fail
  refine (stp w14 [(1, -1), (2, 1)] rfl M.out.c).mono ?_
  rintro e w15 ⟨rfl, k1⟩
  replace M := Lib.hid (M.out.next k1)
  clear k1
  go_wp2_with fail
  refine (sam w15 [3, 2, 1] rfl M.out.d).mono ?_
  rintro e w16 ⟨rfl, k1⟩
  have HU := Lib.hid (M.out.next k1).u
  clear k1 M
  go_wp2_with fail
  refine (ex9 _).mono ?_
  rintro e w17 ⟨A9, rfl, h1, k1⟩
  replace HU := Lib.hid (HU.out.trans ((((below_new w16 _).trans ((below_new _ _).mono (by simp))).trans (k1.mono (by simp; omega))).mono HU.out.size))
  clear h1 k1
  go_wp2_with fail
  refine (ex10 _).mono ?_
  rintro e w18 ⟨A10, rfl, h1, k1⟩
  replace HU := Lib.hid (HU.out.trans ((((below_new w17 _).trans ((below_new _ _).mono (by simp))).trans (k1.mono (by simp; omega))).mono HU.out.size))
  clear h1 k1
  go_wp2_with fail
  refine (ex11 _).mono ?_
  rintro e w19 ⟨A11, rfl, h1, k1⟩
  replace HU := Lib.hid (HU.out.trans ((((below_new w18 _).trans ((below_new _ _).mono (by simp))).trans (k1.mono (by simp; omega))).mono HU.out.size))
  clear h1 k1
  go_wp2_with fail
  go_ret
  exact ⟨rfl, HU.out⟩
end Go.Proofs.Ytejgcpohdbiaoaa
