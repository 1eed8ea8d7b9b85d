/- The walks of Of, Split, Join. -/
import Derived.Test.YtfkjnepafgehiaaHalfW
import Derived.Test.YtfkjnepafgehiaaFindR
namespace Go.Proofs.Ytfkjnepafgehiaa
open Go.RowKit

/-- a balanced tree with this list -/
structure Ls (l : List Int) (t : T) : Prop where
  list : t.list = l
  bal : t.Bal
/-- A rope and an error are returned. -/
def GivesE (P : T → Prop) (f : Int) (w : World) (e : Ending) (w' : World) : Prop :=
  ∃ t p, P t ∧ e = .returned (.tuple #[.agg #[.int .i64 t.count, .int .i64 t.total, .int .i64 t.depth, .pointer p], .int .i64 f]) ∧ Nd w' t p ∧ Below w.heap.size w w'
theorem gives_err {f : Int} {w W : World} (hb : Below w.heap.size w W) : GivesE (Ls []) f w (.returned (.tuple #[.agg (rc 0 0 0 none), .int .i64 f])) W := ⟨.nil, none, ⟨rfl, trivial⟩, rfl, rfl, hb⟩
theorem givesE_set {P : T → Prop} {w W : World} {t : T} {p : Option Addr} {g : Nat} (hP : P t) (hn : Nd W t p) (hr : Room W g)
    (hb : Below w.heap.size w ((((W.setCell ⟨g, 0, none⟩ (.int .i64 t.count)).setCell ⟨g, 1, none⟩ (.int .i64 t.total)).setCell ⟨g, 2, none⟩ (.int .i64 t.depth)).setCell ⟨g, 3, none⟩ (.pointer p))) :
    GivesE P 0 w (.returned (.tuple #[.agg (rc t.count t.total t.depth p), .int .i64 0])) ((((W.setCell ⟨g, 0, none⟩ (.int .i64 t.count)).setCell ⟨g, 1, none⟩ (.int .i64 t.total)).setCell ⟨g, 2, none⟩ (.int .i64 t.depth)).setCell ⟨g, 3, none⟩ (.pointer p)) :=
  ⟨t, p, hP, rfl, hn.set4 hr, hb⟩

/-- what Of makes -/
def ofR (zs : List Int) : List Int × Int := if chk zs = 0 then (zs, 0) else ([], chk zs)
/-- and its depth -/
structure Lo (l : List Int) (t : T) : Prop where
  ls : Ls l t
  dep : t.depth = halfD l.length
set_option maxHeartbeats 1000000 in
theorem of_bad (A : Option Addr) (c : Nat) (zs : List Int) (w : World) (hr : RdI w w.heap.size A zs) (hl : zs.length ≤ 9223372036854775807) (h0 : chk zs ≠ 0) :
    Calls Try.prog 11 #[.slice A zs.length c] w (GivesE (Ls []) (chk zs) w) := by
  have hB0 := (Below.refl w.heap.size w).alloc (Nat.le_refl _) (.cells #[.int .i64 0, .int .i64 0, .int .i64 0, .pointer none] 27)
  have hc := check_any A c zs (w.alloc (.cells #[.int .i64 0, .int .i64 0, .int .i64 0, .pointer none] 27)) ((hr.below hB0).more hB0.size) hl
  generalize chk zs = r at *
  have hb : (r == 0) = false := by simpa using h0
  have hb2 : (r != 0) = true := by simpa using h0
  clear h0 hr
  go_enter Try.func11, Try.ntmps11
  go_wp2_with fail
  refine hc.mono ?_
  rintro e w' ⟨rfl, rfl⟩
  go_wp2_with fail
  exact bodyPost_ret (res_rope_err rfl (g := w.heap.size) rfl (heap_alloc_new w _)) rfl (gives_err hB0)
set_option maxHeartbeats 1000000 in
theorem of_ok (A : Option Addr) (c : Nat) (zs : List Int) (w : World) (hr : RdI w w.heap.size A zs) (hv : Vd zs) (hc0 : zs.length ≤ c) (hm : c ≤ 9223372036854775807) :
    Calls Try.prog 11 #[.slice A zs.length c] w (GivesE (Lo zs) 0 w) := by
  have hl := hv.len
  have hB0 := (Below.refl w.heap.size w).alloc (Nat.le_refl _) (.cells #[.int .i64 0, .int .i64 0, .int .i64 0, .pointer none] 27)
  have hr0 := (hr.below hB0).more hB0.size
  have hc := check_any A c zs (w.alloc (.cells #[.int .i64 0, .int .i64 0, .int .i64 0, .pointer none] 27)) hr0 (by omega)
  rw [chk_zero.2 hv] at hc
  have hH := Lib.hid (half_at zs.length (Nat.le_refl _) hr0 hc0 hm hv.ok)
  have hR0 : Room (w.alloc (.cells #[.int .i64 0, .int .i64 0, .int .i64 0, .pointer none] 27)) w.heap.size := ⟨_, _, _, _, heap_alloc_new w _⟩
  clear hr hr0 hv
  go_enter Try.func11, Try.ntmps11
  go_wp2_with fail
  refine hc.mono ?_
  rintro e w' ⟨rfl, rfl⟩
  go_wp2_with fail
  refine hH.out.mono ?_
  rintro e w3 ⟨t, p, k, rfl, n3, kk⟩
  have hR3 := hR0.keep kk
  have hb3 := hB0.trans (kk.mono hB0.size)
  obtain ⟨v0, v1, v2, v3, f0, f1, f2, f3, f4, f5, f6, f7⟩ := hR3.open_
  go_wp2_with fail
  exact bodyPost_ret (res_rope_err rfl (g := w.heap.size) rfl (heap_set4 hR3)) rfl (givesE_set ⟨⟨k.list, k.bal⟩, k.dep⟩ n3 hR3 (below_set4 hb3 (Nat.le_refl _)))
theorem givesE_imp {P Q : T → Prop} {f : Int} (h : ∀ t, P t → Q t) {w : World} {e : Ending} {w' : World} (hg : GivesE P f w e w') : GivesE Q f w e w' := by
  obtain ⟨t, p, h1, h2⟩ := hg
  exact ⟨t, p, h t h1, h2⟩
theorem of_any (A : Option Addr) (c : Nat) (zs : List Int) (w : World) (hr : RdI w w.heap.size A zs) (hc0 : zs.length ≤ c) (hm : c ≤ 9223372036854775807) :
    Calls Try.prog 11 #[.slice A zs.length c] w (GivesE (Ls (ofR zs).1) (ofR zs).2 w) := by
  unfold ofR
  by_cases h : chk zs = 0
  · rw [if_pos h]
    exact (of_ok A c zs w hr (chk_zero.1 h) hc0 hm).mono fun _ _ hg => givesE_imp (fun _ ht => ht.ls) hg
  · rw [if_neg h]
    exact of_bad A c zs w hr (by omega) h

/-- what Join makes -/
def joinR (a b : List Int) : List Int × Int := if joinE a b = 0 then (a ++ b, 0) else ([], joinE a b)
set_option maxHeartbeats 1000000 in
theorem joinP_any {a b : T} {pa pb : Option Addr} {w : World} (ha : Nd w a pa) (hb : Nd w b pb) (ba : a.Bal) (bb : b.Bal) (oa : Ok a.list) (ob : Ok b.list) :
    Calls Try.prog 24 #[.agg #[.int .i64 a.count, .int .i64 a.total, .int .i64 a.depth, .pointer pa], .agg #[.int .i64 b.count, .int .i64 b.total, .int .i64 b.depth, .pointer pb]] w (GivesE (Ls (joinR a.list b.list).1) (joinR a.list b.list).2 w) := by
  have hB0 := below_three w (.cells #[.int .i64 a.count, .int .i64 a.total, .int .i64 a.depth, .pointer pa] 27) (.cells #[.int .i64 b.count, .int .i64 b.total, .int .i64 b.depth, .pointer pb] 27) (.cells #[.int .i64 0, .int .i64 0, .int .i64 0, .pointer none] 27)
  have hA := Lib.hid (keep_heap (below_two (w.alloc (.cells #[.int .i64 a.count, .int .i64 a.total, .int .i64 a.depth, .pointer pa] 27)) (.cells #[.int .i64 b.count, .int .i64 b.total, .int .i64 b.depth, .pointer pb] 27) (.cells #[.int .i64 0, .int .i64 0, .int .i64 0, .pointer none] 27)) (heap_alloc_new w (.cells #[.int .i64 a.count, .int .i64 a.total, .int .i64 a.depth, .pointer pa] 27)))
  have hX := Lib.hid (three_heap w (.cells #[.int .i64 a.count, .int .i64 a.total, .int .i64 a.depth, .pointer pa] 27) (.cells #[.int .i64 b.count, .int .i64 b.total, .int .i64 b.depth, .pointer pb] 27) (.cells #[.int .i64 0, .int .i64 0, .int .i64 0, .pointer none] 27)).1
  have hZ := Lib.hid (three_heap w (.cells #[.int .i64 a.count, .int .i64 a.total, .int .i64 a.depth, .pointer pa] 27) (.cells #[.int .i64 b.count, .int .i64 b.total, .int .i64 b.depth, .pointer pb] 27) (.cells #[.int .i64 0, .int .i64 0, .int .i64 0, .pointer none] 27)).2
  have HC := Lib.hid (joinE_any (pa := pa) (pb := pb) (w := (((w.alloc (.cells #[.int .i64 a.count, .int .i64 a.total, .int .i64 a.depth, .pointer pa] 27)).alloc (.cells #[.int .i64 b.count, .int .i64 b.total, .int .i64 b.depth, .pointer pb] 27)).alloc (.cells #[.int .i64 0, .int .i64 0, .int .i64 0, .pointer none] 27))) oa ob)
  have HA := Lib.hid ha
  have HB := Lib.hid hb
  unfold joinR
  by_cases h : joinE a.list b.list = 0
  · rw [if_pos h]
    have HO := Lib.hid (ok_of_joinE oa ob h)
    rw [h] at HC
    have BA := Lib.hid ba
    have BB := Lib.hid bb
    clear ha hb oa ob h ba bb
    go_enter Try.func24, Try.ntmps24
    go_wp2_with fail
    refine HC.out.mono ?_
    rintro e w1 ⟨rfl, kk⟩
    obtain ⟨a0, a1, a2, a3⟩ := rc_cells (keep_heap kk hA.out)
    obtain ⟨b0, b1, b2, b3⟩ := rc_cells (keep_heap kk hX.out)
    have hR1 : Room w1 (w.heap.size + 1 + 1) := ⟨_, _, _, _, keep_heap kk hZ.out⟩
    have hb1 := hB0.trans (kk.mono hB0.size)
    clear kk
    go_wp2_with fail
    refine (join_any (HA.out.below hb1) (HB.out.below hb1) BA.out BB.out HO.out).mono ?_
    rintro e w3 ⟨t, p, k, rfl, n3, kk⟩
    have hR3 := hR1.keep kk
    have hb3 := hb1.trans (kk.mono hb1.size)
    obtain ⟨v0, v1, v2, v3, f0, f1, f2, f3, f4, f5, f6, f7⟩ := hR3.open_
    go_wp2_with fail
    exact bodyPost_ret (res_rope_err rfl (g := w.heap.size + 1 + 1) rfl (heap_set4 hR3)) rfl (givesE_set ⟨k.list, k.bal⟩ n3 hR3 (below_set4 hb3 (by omega)))
  · rw [if_neg h]
    generalize joinE a.list b.list = r at *
    have hb1 : (r == 0) = false := by simpa using h
    have hb2 : (r != 0) = true := by simpa using h
    clear ha hb oa ob h ba bb
    go_enter Try.func24, Try.ntmps24
    go_wp2_with fail
    refine HC.out.mono ?_
    rintro e w1 ⟨rfl, kk⟩
    have hZ1 := keep_heap kk hZ.out
    have hR1 : Room w1 (w.heap.size + 1 + 1) := ⟨_, _, _, _, hZ1⟩
    have hbw := hB0.trans (kk.mono hB0.size)
    obtain ⟨v0, v1, v2, v3, f0, f1, f2, f3, f4, f5, f6, f7⟩ := hR1.open_
    clear kk
    go_wp2_with fail
    exact bodyPost_ret (res_rope_err rfl (g := w.heap.size + 1 + 1) rfl (heap_set4 hR1)) rfl (gives_err (below_set4 hbw (by omega)))

end Go.Proofs.Ytfkjnepafgehiaa
