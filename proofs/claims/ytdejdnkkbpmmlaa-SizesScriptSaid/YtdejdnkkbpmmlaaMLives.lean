/- The walk of lives. -/
import Derived.Test.YtdejdnkkbpmmlaaMI8W
namespace Go.Proofs.Ytdejdnkkbpmmlaa
open Go.RowKit

def r3 : List (Int × Bool) := [(3, true), (4, false), (5, false)]
/-- an index that lies in a variable -/
structure Vx (w U : World) (g : Nat) (r : List (Int × Bool)) (t : T) (p A : Option Addr) (c : Nat) (xs : List S.Sp) : Prop where
  ix : Ix U r t p A c xs
  bx : U.heap[g]? = some (.cells #[.int .i64 t.count, .int .i64 t.total, .int .i64 t.depth, .pointer p, .slice A xs.length c] 32 (0, 0))
  u : Below w.heap.size w U
theorem Vx.next {w U U' : World} {g : Nat} {r : List (Int × Bool)} {t : T} {p A : Option Addr} {c : Nat} {xs : List S.Sp} (h : Vx w U g r t p A c xs) (kk : Below U.heap.size U U') : Vx w U' g r t p A c xs :=
  ⟨h.ix.next kk, keep_heap kk h.bx, h.u.trans (kk.mono h.u.size)⟩
theorem Vx.lit {w U : World} {g : Nat} {r : List (Int × Bool)} {t : T} {p A : Option Addr} {c : Nat} {xs : List S.Sp} (h : Vx w U g r t p A c xs) (o : Obj) : Vx w (U.alloc o) g r t p A c xs := h.next (below_new _ _)
theorem Vx.new {w U : World} {r : List (Int × Bool)} {t : T} {p A : Option Addr} {c : Nat} {xs : List S.Sp} (h : Ix U r t p A c xs) (hu : Below w.heap.size w U) : Vx w (U.alloc (.cells #[.int .i64 t.count, .int .i64 t.total, .int .i64 t.depth, .pointer p, .slice A xs.length c] 32)) U.heap.size r t p A c xs :=
  ⟨h.next (below_new _ _), heap_alloc_new _ _, hu.trans ((below_new _ _).mono hu.size)⟩
theorem Vx.room {w U : World} {g : Nat} {r : List (Int × Bool)} {t : T} {p A : Option Addr} {c : Nat} {xs : List S.Sp} (h : Vx w U g r t p A c xs) : Room5 U g := ⟨_, _, _, _, _, h.bx⟩
/-- another index takes its place -/
theorem Vx.set {w U : World} {g : Nat} {r r' : List (Int × Bool)} {t t' : T} {p A p' A' : Option Addr} {c c' : Nat} {xs xs' : List S.Sp} (h : Vx w U g r t p A c xs) (h' : Ix U r' t' p' A' c' xs') (hf : Far g A' xs') (hg : w.heap.size ≤ g) :
    Vx w (((((U.setCell ⟨g, 0, none⟩ (.int .i64 t'.count)).setCell ⟨g, 1, none⟩ (.int .i64 t'.total)).setCell ⟨g, 2, none⟩ (.int .i64 t'.depth)).setCell ⟨g, 3, none⟩ (.pointer p')).setCell ⟨g, 4, none⟩ (.slice A' xs'.length c')) g r' t' p' A' c' xs' :=
  ⟨⟨h'.nd.set5 h.room, h'.ls, rd_set5 h'.rd hf, h'.set, h'.cap, h'.vr⟩, heap_set5 h.room, below_set5 h.u hg⟩
theorem rdI_two (w : World) (x y : Int) : RdI (w.alloc (.cells #[.int .i64 x, .int .i64 y] 2)) (w.alloc (.cells #[.int .i64 x, .int .i64 y] 2)).heap.size (some ⟨w.heap.size, 0, none⟩) [x, y] := fun k hk => by
  have h := heap_alloc_new w (.cells #[.int .i64 x, .int .i64 y] 2)
  match k, hk with
  | 0, _ => exact ⟨w.heap.size, 0, rfl, heap_lt h, cell_of_row _ _ 0 _ 2 (0, 0) h⟩
  | 1, _ => exact ⟨w.heap.size, 0, rfl, heap_lt h, cell_of_row _ _ 1 _ 2 (0, 0) h⟩
theorem rdR_three (w : World) (a b c : Int) (x y z : Bool) : RdR (w.alloc (.cells #[.int .i64 a, .bool x, .int .i64 b, .bool y, .int .i64 c, .bool z] 42)) (w.alloc (.cells #[.int .i64 a, .bool x, .int .i64 b, .bool y, .int .i64 c, .bool z] 42)).heap.size (some ⟨w.heap.size, 0, none⟩) [(a, x), (b, y), (c, z)] := fun k hk => by
  have h := heap_alloc_new w (.cells #[.int .i64 a, .bool x, .int .i64 b, .bool y, .int .i64 c, .bool z] 42)
  match k, hk with
  | 0, _ => exact ⟨w.heap.size, 0, rfl, heap_lt h, cell_of_row _ _ 0 _ 42 (0, 0) h, cell_of_row _ _ 1 _ 42 (0, 0) h⟩
  | 1, _ => exact ⟨w.heap.size, 0, rfl, heap_lt h, cell_of_row _ _ 2 _ 42 (0, 0) h, cell_of_row _ _ 3 _ 42 (0, 0) h⟩
  | 2, _ => exact ⟨w.heap.size, 0, rfl, heap_lt h, cell_of_row _ _ 4 _ 42 (0, 0) h, cell_of_row _ _ 5 _ 42 (0, 0) h⟩

/-- an index and an error are returned, written out -/
abbrev IxO (r : List (Int × Bool)) (f : Int) (w : World) (e : Ending) (w' : World) : Prop :=
  ∃ (t : T) (p A : Option Addr) (c : Nat) (xs : List S.Sp), e = .returned (.tuple #[.agg #[.int .i64 t.count, .int .i64 t.total, .int .i64 t.depth, .pointer p, .slice A xs.length c], .int .i64 f]) ∧ Ix w' r t p A c xs ∧ Below w.heap.size w w' ∧ ∀ g, g < w.heap.size → Far g A xs
theorem IxE.o {R : List (Int × Bool) × Int} {r : List (Int × Bool)} {f : Int} (h : R = (r, f)) {n : FuncId} {args : Array Value} {w : World} (hc : Calls Try.prog n args w (IxE R w)) : Calls Try.prog n args w (IxO r f w) := by
  subst h
  exact hc
theorem lv_in1 (w : World) {L : Option Addr} (hL : RdI w w.heap.size L [4, 5]) : Calls Try.prog 20 #[.agg #[.int .i64 0, .int .i64 0, .int .i64 0, .pointer none, .slice none 0 0], .int .i64 0, .slice L 2 2, .bool false] w (IxO [(4, false), (5, false)] 0 w) :=
  IxE.o (R := insI [] 0 [4, 5] false) (by kernel_rfl) (in_any (Ix.none w) 0 false hL (Nat.le_refl _) (by decide))
section
variable {w : World} {r : List (Int × Bool)} {t : T} {p A L : Option Addr} {c : Nat} {xs : List S.Sp}
theorem lv_in2 (h : Ix w [(4, false), (5, false)] t p A c xs) (hL : RdI w w.heap.size L [3]) : Calls Try.prog 20 #[.agg #[.int .i64 t.count, .int .i64 t.total, .int .i64 t.depth, .pointer p, .slice A xs.length c], .int .i64 0, .slice L 1 1, .bool true] w (IxO r3 0 w) :=
  IxE.o (R := insI [(4, false), (5, false)] 0 [3] true) (by kernel_rfl) (in_any h 0 true hL (Nat.le_refl _) (by decide))
theorem lv_in3 (h : Ix w r3 t p A c xs) (hL : RdI w w.heap.size L [0]) : Calls Try.prog 20 #[.agg #[.int .i64 t.count, .int .i64 t.total, .int .i64 t.depth, .pointer p, .slice A xs.length c], .int .i64 0, .slice L 1 1, .bool false] w (IxO [] 12 w) :=
  IxE.o (R := insI r3 0 [0] false) (by kernel_rfl) (in_any h 0 false hL (Nat.le_refl _) (by decide))
theorem lv_mv (h : Ix w r3 t p A c xs) : Calls Try.prog 24 #[.agg #[.int .i64 t.count, .int .i64 t.total, .int .i64 t.depth, .pointer p, .slice A xs.length c], .int .i64 0, .int .i64 1, .int .i64 2] w (IxO [(4, false), (5, false), (3, true)] 0 w) :=
  IxE.o (R := movI r3 0 1 2) (by kernel_rfl) (mv_any h 0 1 2 (by decide) (by decide))
theorem lv_st1 (h : Ix w r3 t p A c xs) : Calls Try.prog 26 #[.agg #[.int .i64 t.count, .int .i64 t.total, .int .i64 t.depth, .pointer p, .slice A xs.length c], .int .i64 1, .int .i64 9, .bool true] w (IxO [(3, true), (9, true), (5, false)] 0 w) :=
  IxE.o (R := setI r3 1 9 true) (by kernel_rfl) (st_any h 1 9 true (by decide))
theorem lv_st2 (h : Ix w r3 t p A c xs) : Calls Try.prog 26 #[.agg #[.int .i64 t.count, .int .i64 t.total, .int .i64 t.depth, .pointer p, .slice A xs.length c], .int .i64 0, .int .i64 2305843009213693953, .bool true] w (IxO [] 12 w) :=
  IxE.o (R := setI r3 0 2305843009213693953 true) (by kernel_rfl) (st_any h 0 2305843009213693953 true (by decide))
theorem lv_top2 (h : Ix w r3 t p A c xs) : Calls Try.prog 11 #[.agg #[.int .i64 t.count, .int .i64 t.total, .int .i64 t.depth, .pointer p, .slice A xs.length c], .int .i64 2] w fun e w' => e = .returned (.tuple #[.int .i64 7, .int .i64 0]) ∧ Below w.heap.size w w' := by
  have := top_any h 2 (by decide)
  rw [show topR r3 2 = (7, 0) from by kernel_rfl] at this
  exact this
theorem lv_top3 (h : Ix w r3 t p A c xs) : Calls Try.prog 11 #[.agg #[.int .i64 t.count, .int .i64 t.total, .int .i64 t.depth, .pointer p, .slice A xs.length c], .int .i64 3] w fun e w' => e = .returned (.tuple #[.int .i64 12, .int .i64 0]) ∧ Below w.heap.size w w' := by
  have := top_any h 3 (by decide)
  rw [show topR r3 3 = (12, 0) from by kernel_rfl] at this
  exact this
theorem lv_at3 (h : Ix w r3 t p A c xs) : Calls Try.prog 13 #[.agg #[.int .i64 t.count, .int .i64 t.total, .int .i64 t.depth, .pointer p, .slice A xs.length c], .int .i64 3] w fun e w' => e = .returned (.tuple #[.int .i64 1, .int .i64 0, .int .i64 0]) ∧ Below w.heap.size w w' := by
  have := at_in h (x := 3) (i := 1) (by refine ⟨?_, ?_, ?_⟩ <;> decide)
  rw [show (3 : Int) - pre (sz r3) 1 = 0 from by kernel_rfl] at this
  exact this
theorem lv_at11 (h : Ix w r3 t p A c xs) : Calls Try.prog 13 #[.agg #[.int .i64 t.count, .int .i64 t.total, .int .i64 t.depth, .pointer p, .slice A xs.length c], .int .i64 11] w fun e w' => e = .returned (.tuple #[.int .i64 2, .int .i64 4, .int .i64 0]) ∧ Below w.heap.size w w' := by
  have := at_in h (x := 11) (i := 2) (by refine ⟨?_, ?_, ?_⟩ <;> decide)
  rw [show (11 : Int) - pre (sz r3) 2 = 4 from by kernel_rfl] at this
  exact this
theorem lv_at12 (h : Ix w r3 t p A c xs) : Calls Try.prog 13 #[.agg #[.int .i64 t.count, .int .i64 t.total, .int .i64 t.depth, .pointer p, .slice A xs.length c], .int .i64 12] w fun e w' => e = .returned (.tuple #[.int .i64 0, .int .i64 0, .int .i64 4]) ∧ Below w.heap.size w w' :=
  at_out h 12 (.inr (by decide))
theorem lv_len (h : Ix w r3 t p A c xs) : Calls Try.prog 27 #[.agg #[.int .i64 t.count, .int .i64 t.total, .int .i64 t.depth, .pointer p]] w fun e w' => e = .returned (.int .i64 3) ∧ Below w.heap.size w w' := by
  have := len_below t.count t.total t.depth p w
  rw [show (t.count : Int) = 3 from by rw [h.cnt]; rfl] at this ⊢
  exact this
theorem lv_tot (h : Ix w r t p A c xs) {x : Int} (hx : (sz r).sum = x) : Calls Try.prog 28 #[.agg #[.int .i64 t.count, .int .i64 t.total, .int .i64 t.depth, .pointer p]] w fun e w' => e = .returned (.int .i64 x) ∧ Below w.heap.size w w' := by
  have := total_below t.count t.total t.depth p w
  rw [show t.total = x from by rw [h.tot, hx]] at this ⊢
  exact this
theorem lv_unk (h : Ix w r t p A c xs) (hr : r.length = 3) {v : Int} (hv : 0 ≤ v ∧ v < 3) (hk : kn r v = false) (hb : ∀ j : Int, 0 ≤ j → j < v → kn r j = true) : Calls Try.prog 18 #[.agg #[.int .i64 t.count, .int .i64 t.total, .int .i64 t.depth, .pointer p, .slice A xs.length c], .int .i64 0, .int .i64 3] w fun e w' => e = .returned (.tuple #[.int .i64 v, .int .i64 0]) ∧ Below w.heap.size w w' := by
  refine (unk_ok h 0 3 (by decide) (by decide) (by rw [hr]; decide)).mono ?_
  rintro e w' ⟨x, f, rfl, kk, ⟨rfl, h1, h2, h3, h4⟩ | ⟨rfl, rfl, h4⟩⟩
  · rcases Int.lt_trichotomy x v with hx | rfl | hx
    · rw [hb x h1 hx] at h3; cases h3
    · exact ⟨rfl, kk⟩
    · rw [h4 v hv.1 hx] at hk; cases hk
  · rw [h4 v hv.1 hv.2] at hk; cases hk
theorem lv_unk11 (h : Ix w r3 t p A c xs) : Calls Try.prog 18 #[.agg #[.int .i64 t.count, .int .i64 t.total, .int .i64 t.depth, .pointer p, .slice A xs.length c], .int .i64 0, .int .i64 1] w fun e w' => e = .returned (.tuple #[.int .i64 0, .int .i64 11]) ∧ Below w.heap.size w w' := by
  refine (unk_ok h 0 1 (by decide) (by decide) (by decide)).mono ?_
  rintro e w' ⟨x, f, rfl, kk, ⟨rfl, h1, h2, h3, h4⟩ | ⟨rfl, rfl, h4⟩⟩
  · obtain rfl : x = 0 := by omega
    exact absurd h3 (by decide)
  · exact ⟨rfl, kk⟩
theorem lv_unk1 (h : Ix w r3 t p A c xs) : Calls Try.prog 18 #[.agg #[.int .i64 t.count, .int .i64 t.total, .int .i64 t.depth, .pointer p, .slice A xs.length c], .int .i64 0, .int .i64 3] w fun e w' => e = .returned (.tuple #[.int .i64 1, .int .i64 0]) ∧ Below w.heap.size w w' :=
  lv_unk h rfl ⟨by decide, by decide⟩ (by decide) (fun j h0 h1 => by
    obtain rfl : j = 0 := by omega
    decide)
theorem lv_unk2 (h : Ix w [(3, true), (9, true), (5, false)] t p A c xs) : Calls Try.prog 18 #[.agg #[.int .i64 t.count, .int .i64 t.total, .int .i64 t.depth, .pointer p, .slice A xs.length c], .int .i64 0, .int .i64 3] w fun e w' => e = .returned (.tuple #[.int .i64 2, .int .i64 0]) ∧ Below w.heap.size w w' :=
  lv_unk h rfl ⟨by decide, by decide⟩ (by decide) (fun j h0 h1 => by
    rcases (show j = 0 ∨ j = 1 by omega) with rfl | rfl <;> decide)
theorem lv_unk4 (h : Ix w r3 t p A c xs) : Calls Try.prog 18 #[.agg #[.int .i64 t.count, .int .i64 t.total, .int .i64 t.depth, .pointer p, .slice A xs.length c], .int .i64 2, .int .i64 1] w fun e w' => e = .returned (.tuple #[.int .i64 0, .int .i64 4]) ∧ Below w.heap.size w w' :=
  unk_bad h 2 1 (.inr (.inl (by decide)))
theorem lv_same {B : Option Addr} (h : Ix w [(4, false), (5, false), (3, true)] t p A c xs) (hR : RdR w w.heap.size B [(4, false), (5, false), (3, true)]) :
    Calls Try.prog 10 #[.agg #[.int .i64 t.count, .int .i64 t.total, .int .i64 t.depth, .pointer p, .slice A xs.length c], .int .i64 0, .slice B 3 3, .int .i64 0] w fun e w' => e = .returned (.bool true) ∧ Below w.heap.size w w' :=
  same_any h hR 0
end
end Go.Proofs.Ytdejdnkkbpmmlaa

namespace Go.Proofs.Ytdejdnkkbpmmlaa
open Go.RowKit

set_option maxRecDepth 100000 in
set_option maxHeartbeats 16000000 in
theorem lives_any (w : World) : Calls Try.prog 17 #[] w fun e w' => e = .returned (.bool true) ∧ Below w.heap.size w w' := by
  go_enter Try.func17, Try.ntmps17
  go_wp2_with fail
  refine (new_any _).mono ?_
  rintro e w1 ⟨rfl, kk⟩
  have HB1 := Lib.hid (show Below w.heap.size w (w1.alloc (.cells #[.int .i64 4, .int .i64 5] 2)) from kk.trans ((below_new _ _).mono kk.size))
  have HL := Lib.hid (rdI_two w1 4 5)
  clear kk
  go_wp2_with fail
  refine (lv_in1 _ HL.out).mono ?_
  rintro e w2 ⟨t, p, A, c, xs, rfl, hix, kk, _⟩
  have M2 := Lib.hid (Vx.new hix (HB1.out.trans (kk.mono HB1.out.size)))
  have hg := Nat.le_trans HB1.out.size kk.size
  clear hix kk HB1 HL
  go_upto_region 2 with fail
  obtain ⟨g, hg1⟩ : ∃ g, w2.heap.size = g := ⟨_, rfl⟩
  obtain ⟨V2, hV⟩ : ∃ V : World, w2.alloc (.cells #[.int .i64 t.count, .int .i64 t.total, .int .i64 t.depth, .pointer p, .slice A xs.length c] 32) = V := ⟨_, rfl⟩
  rw [hV, hg1] at M2 ⊢
  rw [hg1] at hg
  clear hV hg1
  have HG := Lib.hid hg
  clear hg
  obtain ⟨x0, x1, x2, x3, x4⟩ := box5 M2.out.bx
  have MA := Lib.hid (M2.out.lit (.cells #[.int .i64 3] 2))
  have HL := Lib.hid (RdI_one V2 3)
  go_wp2_with fail
  refine (lv_in2 MA.out.ix HL.out).mono ?_
  rintro e w3 ⟨t2, p2, A2, c2, xs2, rfl, hix, kk, hfar⟩
  have MB := MA.out.next kk
  have N3 := Lib.hid (MB.set hix (hfar g (heap_lt MA.out.bx)) HG.out)
  obtain ⟨v0, v1, v2, v3, v4, d0, d1, d2, d3, d4, f0, f1, f2, f3, f4⟩ := MB.room.open_
  clear x0 x1 x2 x3 x4 hix kk hfar MA HL M2 MB
  go_upto_region 3 with fail
  obtain ⟨V3, M3, hV⟩ : ∃ V : World, Hid (Vx w V g r3 t2 p2 A2 c2 xs2) ∧ V = _ := ⟨_, N3, rfl⟩
  rw [← hV]
  clear hV N3 d0 d1 d2 d3 d4 f0 f1 f2 f3 f4
  obtain ⟨x0, x1, x2, x3, x4⟩ := box5 M3.out.bx
  go_wp2_with fail
  refine (lv_top2 M3.out.ix).mono ?_
  rintro e w4 ⟨rfl, kk⟩
  have M4 := Lib.hid (M3.out.next kk)
  clear x0 x1 x2 x3 x4 kk M3
  obtain ⟨x0, x1, x2, x3, x4⟩ := box5 M4.out.bx
  go_wp2_with fail
  refine (lv_top3 M4.out.ix).mono ?_
  rintro e w5 ⟨rfl, kk⟩
  have M5 := Lib.hid (M4.out.next kk)
  clear x0 x1 x2 x3 x4 kk M4
  obtain ⟨x0, x1, x2, x3, x4⟩ := box5 M5.out.bx
  go_wp2_with fail
  refine (lv_at3 M5.out.ix).mono ?_
  rintro e w6 ⟨rfl, kk⟩
  have M6 := Lib.hid (M5.out.next kk)
  clear x0 x1 x2 x3 x4 kk M5
  obtain ⟨x0, x1, x2, x3, x4⟩ := box5 M6.out.bx
  go_wp2_with fail
  refine (lv_at11 M6.out.ix).mono ?_
  rintro e w7 ⟨rfl, kk⟩
  have M7 := Lib.hid (M6.out.next kk)
  clear x0 x1 x2 x3 x4 kk M6
  obtain ⟨x0, x1, x2, x3, x4⟩ := box5 M7.out.bx
  go_wp2_with fail
  refine (lv_at12 M7.out.ix).mono ?_
  rintro e w8 ⟨rfl, kk⟩
  have M8 := Lib.hid (M7.out.next kk)
  clear x0 x1 x2 x3 x4 kk M7
  obtain ⟨x0, x1, x2, x3, x4⟩ := box5 M8.out.bx
  go_wp2_with fail
  refine (lv_len M8.out.ix).mono ?_
  rintro e w9 ⟨rfl, kk⟩
  have M9 := Lib.hid (M8.out.next kk)
  clear x0 x1 x2 x3 x4 kk M8
  obtain ⟨x0, x1, x2, x3, x4⟩ := box5 M9.out.bx
  go_wp2_with fail
  refine (lv_tot M9.out.ix (x := 12) (by decide)).mono ?_
  rintro e w10 ⟨rfl, kk⟩
  have M10 := Lib.hid (M9.out.next kk)
  clear x0 x1 x2 x3 x4 kk M9
  obtain ⟨x0, x1, x2, x3, x4⟩ := box5 M10.out.bx
  go_wp2_with fail
  refine (lv_unk1 M10.out.ix).mono ?_
  rintro e w11 ⟨rfl, kk⟩
  have M11 := Lib.hid (M10.out.next kk)
  clear x0 x1 x2 x3 x4 kk M10
  obtain ⟨x0, x1, x2, x3, x4⟩ := box5 M11.out.bx
  go_wp2_with fail
  refine (lv_unk11 M11.out.ix).mono ?_
  rintro e w12 ⟨rfl, kk⟩
  have M12 := Lib.hid (M11.out.next kk)
  clear x0 x1 x2 x3 x4 kk M11
  obtain ⟨x0, x1, x2, x3, x4⟩ := box5 M12.out.bx
  go_wp2_with fail
  refine (lv_unk4 M12.out.ix).mono ?_
  rintro e w13 ⟨rfl, kk⟩
  have M13 := Lib.hid (M12.out.next kk)
  clear x0 x1 x2 x3 x4 kk M12
  obtain ⟨x0, x1, x2, x3, x4⟩ := box5 M13.out.bx
  go_wp2_with fail
  refine (lv_mv M13.out.ix).mono ?_
  rintro e w14 ⟨t3, p3, A3, c3, xs3, rfl, hix, kk, _⟩
  have M14 := Lib.hid (M13.out.next kk |>.lit (.cells #[.int .i64 t3.count, .int .i64 t3.total, .int .i64 t3.depth, .pointer p3, .slice A3 xs3.length c3] 32))
  have K14 := Lib.hid (Vx.new hix (M13.out.next kk).u)
  clear x0 x1 x2 x3 x4 kk M13 hix
  go_upto_region 14 with fail
  obtain ⟨g17, hg1⟩ : ∃ g, w14.heap.size = g := ⟨_, rfl⟩
  obtain ⟨V14, hV⟩ : ∃ V : World, w14.alloc (.cells #[.int .i64 t3.count, .int .i64 t3.total, .int .i64 t3.depth, .pointer p3, .slice A3 xs3.length c3] 32) = V := ⟨_, rfl⟩
  rw [hV] at M14 ⊢
  rw [hV, hg1] at K14
  rw [hg1]
  clear hV hg1
  obtain ⟨x0, x1, x2, x3, x4⟩ := box5 M14.out.bx
  go_wp2_with fail
  refine (lv_st1 M14.out.ix).mono ?_
  rintro e w15 ⟨t4, p4, A4, c4, xs4, rfl, hix, kk, _⟩
  have M15 := Lib.hid (M14.out.next kk |>.lit (.cells #[.int .i64 t4.count, .int .i64 t4.total, .int .i64 t4.depth, .pointer p4, .slice A4 xs4.length c4] 32))
  have K15 := Lib.hid (K14.out.next kk |>.lit (.cells #[.int .i64 t4.count, .int .i64 t4.total, .int .i64 t4.depth, .pointer p4, .slice A4 xs4.length c4] 32))
  have L15 := Lib.hid (Vx.new hix (M14.out.next kk).u)
  clear x0 x1 x2 x3 x4 kk M14 K14 hix
  go_upto_region 15 with fail
  obtain ⟨g18, hg1⟩ : ∃ g, w15.heap.size = g := ⟨_, rfl⟩
  obtain ⟨V15, hV⟩ : ∃ V : World, w15.alloc (.cells #[.int .i64 t4.count, .int .i64 t4.total, .int .i64 t4.depth, .pointer p4, .slice A4 xs4.length c4] 32) = V := ⟨_, rfl⟩
  rw [hV] at M15 K15 ⊢
  rw [hV, hg1] at L15
  rw [hg1]
  clear hV hg1
  obtain ⟨x0, x1, x2, x3, x4⟩ := box5 L15.out.bx
  go_wp2_with fail
  refine (lv_unk2 L15.out.ix).mono ?_
  rintro e w16 ⟨rfl, kk⟩
  have M16 := Lib.hid (M15.out.next kk)
  have K16 := Lib.hid (K15.out.next kk)
  have L16 := Lib.hid (L15.out.next kk)
  clear x0 x1 x2 x3 x4 kk M15 K15 L15
  obtain ⟨x0, x1, x2, x3, x4⟩ := box5 M16.out.bx
  have MA := Lib.hid (M16.out.lit (.cells #[.int .i64 0] 2))
  have KA := Lib.hid (K16.out.lit (.cells #[.int .i64 0] 2))
  have LA := Lib.hid (L16.out.lit (.cells #[.int .i64 0] 2))
  have HL := Lib.hid (RdI_one w16 0)
  go_wp2_with fail
  refine (lv_in3 MA.out.ix HL.out).mono ?_
  rintro e w17 ⟨_, _, _, _, _, rfl, _, kk, _⟩
  have M17 := Lib.hid (MA.out.next kk)
  have K17 := Lib.hid (KA.out.next kk)
  have L17 := Lib.hid (LA.out.next kk)
  clear x0 x1 x2 x3 x4 kk M16 K16 L16 MA KA LA HL
  obtain ⟨x0, x1, x2, x3, x4⟩ := box5 M17.out.bx
  go_wp2_with fail
  refine (lv_st2 M17.out.ix).mono ?_
  rintro e w18 ⟨t5, p5, A5, c5, xs5, rfl, _, kk, _⟩
  have K18 := Lib.hid (K17.out.next kk |>.lit (.cells #[.int .i64 t5.count, .int .i64 t5.total, .int .i64 t5.depth, .pointer p5, .slice A5 xs5.length c5] 32))
  have L18 := Lib.hid (L17.out.next kk |>.lit (.cells #[.int .i64 t5.count, .int .i64 t5.total, .int .i64 t5.depth, .pointer p5, .slice A5 xs5.length c5] 32))
  clear x0 x1 x2 x3 x4 kk M17 K17 L17
  go_upto_region 18 with fail
  obtain ⟨V18, hV⟩ : ∃ V : World, w18.alloc (.cells #[.int .i64 t5.count, .int .i64 t5.total, .int .i64 t5.depth, .pointer p5, .slice A5 xs5.length c5] 32) = V := ⟨_, rfl⟩
  rw [hV] at K18 L18 ⊢
  clear hV
  obtain ⟨x0, x1, x2, x3, x4⟩ := box5 L18.out.bx
  go_wp2_with fail
  refine (lv_tot L18.out.ix (x := 17) (by decide)).mono ?_
  rintro e w19 ⟨rfl, kk⟩
  have K19 := Lib.hid (K18.out.next kk)
  clear x0 x1 x2 x3 x4 kk K18 L18
  obtain ⟨x0, x1, x2, x3, x4⟩ := box5 K19.out.bx
  have KA := Lib.hid (K19.out.lit (.cells #[.int .i64 4, .bool false, .int .i64 5, .bool false, .int .i64 3, .bool true] 42))
  have HR := Lib.hid (rdR_three w19 4 5 3 false false true)
  go_wp2_with fail
  refine (lv_same KA.out.ix HR.out).mono ?_
  rintro e w20 ⟨rfl, kk⟩
  have K20 := Lib.hid (KA.out.next kk)
  clear x0 x1 x2 x3 x4 kk K19 KA HR
  go_wp2_with fail
  go_ret
  exact ⟨rfl, K20.out.u⟩
end Go.Proofs.Ytdejdnkkbpmmlaa
