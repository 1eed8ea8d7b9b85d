/- The walks of Remove, Move, Insert, Set. -/
import Derived.Test.YtdejdnkkbpmmlaaMHalfW
import Derived.Test.YtdejdnkkbpmmlaaMFindR
namespace Go.Proofs.Ytdejdnkkbpmmlaa
open Go.RowKit

/-- a balanced tree with this list -/
structure Ls (l : List Int) (t : T) : Prop where
  list : t.list = l
  bal : t.Bal
/-- A rope and an error are returned. -/
def GivesE (P : T → Prop) (f : Int) (w : World) (e : Ending) (w' : World) : Prop :=
  ∃ t p, P t ∧ e = .returned (.tuple #[.agg #[.int .i64 t.count, .int .i64 t.total, .int .i64 t.depth, .pointer p], .int .i64 f]) ∧ Nd w' t p ∧ Below w.heap.size w w'
theorem gives_err {f : Int} {w W : World} (hb : Below w.heap.size w W) : GivesE (Ls []) f w (.returned (.tuple #[.agg (rc 0 0 0 none), .int .i64 f])) W := ⟨.nil, none, ⟨rfl, trivial⟩, rfl, rfl, hb⟩
theorem givesE_set {P : T → Prop} {w W : World} {t : T} {p : Option Addr} {g : Nat} (hP : P t) (hn : Nd W t p) (hr : Room W g)
    (hb : Below w.heap.size w ((((W.setCell ⟨g, 0, none⟩ (.int .i64 t.count)).setCell ⟨g, 1, none⟩ (.int .i64 t.total)).setCell ⟨g, 2, none⟩ (.int .i64 t.depth)).setCell ⟨g, 3, none⟩ (.pointer p))) :
    GivesE P 0 w (.returned (.tuple #[.agg (rc t.count t.total t.depth p), .int .i64 0])) ((((W.setCell ⟨g, 0, none⟩ (.int .i64 t.count)).setCell ⟨g, 1, none⟩ (.int .i64 t.total)).setCell ⟨g, 2, none⟩ (.int .i64 t.depth)).setCell ⟨g, 3, none⟩ (.pointer p)) :=
  ⟨t, p, hP, rfl, hn.set4 hr, hb⟩

/-- what Of makes -/
def ofR (zs : List Int) : List Int × Int := if chk zs = 0 then (zs, 0) else ([], chk zs)
/-- and its depth -/
structure Lo (l : List Int) (t : T) : Prop where
  ls : Ls l t
  dep : t.depth = halfD l.length
set_option maxHeartbeats 1000000 in
theorem of_bad (A : Option Addr) (c : Nat) (zs : List Int) (w : World) (hr : RdI w w.heap.size A zs) (hl : zs.length ≤ 9223372036854775807) (h0 : chk zs ≠ 0) :
    Calls Try.prog 51 #[.slice A zs.length c] w (GivesE (Ls []) (chk zs) w) := by
  have hB0 := (Below.refl w.heap.size w).alloc (Nat.le_refl _) (.cells #[.int .i64 0, .int .i64 0, .int .i64 0, .pointer none] 29)
  have hc := check_any A c zs (w.alloc (.cells #[.int .i64 0, .int .i64 0, .int .i64 0, .pointer none] 29)) ((hr.below hB0).more hB0.size) hl
  generalize chk zs = r at *
  have hb : (r == 0) = false := by simpa using h0
  have hb2 : (r != 0) = true := by simpa using h0
  clear h0 hr
  go_enter Try.func51, Try.ntmps51
  go_wp2_with fail
  refine hc.mono ?_
  rintro e w' ⟨rfl, rfl⟩
  go_wp2_with fail
  exact bodyPost_ret (res_rope_err rfl (g := w.heap.size) rfl (heap_alloc_new w _)) rfl (gives_err hB0)
set_option maxHeartbeats 1000000 in
theorem of_ok (A : Option Addr) (c : Nat) (zs : List Int) (w : World) (hr : RdI w w.heap.size A zs) (hv : Vd zs) (hc0 : zs.length ≤ c) (hm : c ≤ 9223372036854775807) :
    Calls Try.prog 51 #[.slice A zs.length c] w (GivesE (Lo zs) 0 w) := by
  have hl := hv.len
  have hB0 := (Below.refl w.heap.size w).alloc (Nat.le_refl _) (.cells #[.int .i64 0, .int .i64 0, .int .i64 0, .pointer none] 29)
  have hr0 := (hr.below hB0).more hB0.size
  have hc := check_any A c zs (w.alloc (.cells #[.int .i64 0, .int .i64 0, .int .i64 0, .pointer none] 29)) hr0 (by omega)
  rw [chk_zero.2 hv] at hc
  have hH := Lib.hid (half_at zs.length (Nat.le_refl _) hr0 hc0 hm hv.ok)
  have hR0 : Room (w.alloc (.cells #[.int .i64 0, .int .i64 0, .int .i64 0, .pointer none] 29)) w.heap.size := ⟨_, _, _, _, heap_alloc_new w _⟩
  clear hr hr0 hv
  go_enter Try.func51, Try.ntmps51
  go_wp2_with fail
  refine hc.mono ?_
  rintro e w' ⟨rfl, rfl⟩
  go_wp2_with fail
  refine hH.out.mono ?_
  rintro e w3 ⟨t, p, k, rfl, n3, kk⟩
  have hR3 := hR0.keep kk
  have hb3 := hB0.trans (kk.mono hB0.size)
  obtain ⟨v0, v1, v2, v3, f0, f1, f2, f3, f4, f5, f6, f7⟩ := hR3.open_
  go_wp2_with fail
  exact bodyPost_ret (res_rope_err rfl (g := w.heap.size) rfl (heap_set4 hR3)) rfl (givesE_set ⟨⟨k.list, k.bal⟩, k.dep⟩ n3 hR3 (below_set4 hb3 (Nat.le_refl _)))
theorem givesE_imp {P Q : T → Prop} {f : Int} (h : ∀ t, P t → Q t) {w : World} {e : Ending} {w' : World} (hg : GivesE P f w e w') : GivesE Q f w e w' := by
  obtain ⟨t, p, h1, h2⟩ := hg
  exact ⟨t, p, h t h1, h2⟩
theorem of_any (A : Option Addr) (c : Nat) (zs : List Int) (w : World) (hr : RdI w w.heap.size A zs) (hc0 : zs.length ≤ c) (hm : c ≤ 9223372036854775807) :
    Calls Try.prog 51 #[.slice A zs.length c] w (GivesE (Ls (ofR zs).1) (ofR zs).2 w) := by
  unfold ofR
  by_cases h : chk zs = 0
  · rw [if_pos h]
    exact (of_ok A c zs w hr (chk_zero.1 h) hc0 hm).mono fun _ _ hg => givesE_imp (fun _ ht => ht.ls) hg
  · rw [if_neg h]
    exact of_bad A c zs w hr (by omega) h

/-- what Join makes -/
def joinR (a b : List Int) : List Int × Int := if joinE a b = 0 then (a ++ b, 0) else ([], joinE a b)
end Go.Proofs.Ytdejdnkkbpmmlaa

namespace Go.Proofs.Ytdejdnkkbpmmlaa
open Go.RowKit

/-- Two ropes and an error are returned. -/
def TwoE (P : T → T → Prop) (f : Int) (w : World) (e : Ending) (w' : World) : Prop :=
  ∃ a pa b pb, P a b ∧ e = .returned (.tuple #[.agg #[.int .i64 a.count, .int .i64 a.total, .int .i64 a.depth, .pointer pa], .agg #[.int .i64 b.count, .int .i64 b.total, .int .i64 b.depth, .pointer pb], .int .i64 f]) ∧ Nd w' a pa ∧ Nd w' b pb ∧ Below w.heap.size w w'
theorem four_heap (w : World) (A B C D : Obj) : ((((w.alloc A).alloc B).alloc C).alloc D).heap[w.heap.size]? = some A ∧ ((((w.alloc A).alloc B).alloc C).alloc D).heap[w.heap.size + 1]? = some B ∧ ((((w.alloc A).alloc B).alloc C).alloc D).heap[w.heap.size + 1 + 1]? = some C :=
  ⟨keep_heap (below_three (w.alloc A) B C D) (heap_alloc_new w A), (Below.heap_alloc _ _ _ (by simp <;> omega)).trans (three_heap w A B C).1, (Below.heap_alloc _ _ _ (by simp)).trans (three_heap w A B C).2⟩
theorem below_four (w : World) (A B C D : Obj) : Below w.heap.size w ((((w.alloc A).alloc B).alloc C).alloc D) := (below_three w A B C).alloc (below_three w A B C).size _
theorem TwoW.drew {w W : World} {g h : Nat} {a b : T} {pa pb : Option Addr} (hw : TwoW w g h a pa b pb W) : TwoW w g h a pa b pb W.drew := ⟨hw.xa, hw.xb, hw.na.drew, hw.nb.drew, hw.u.drew⟩
theorem two_one {w W : World} {g h : Nat} {a b : T} {pa pb : Option Addr} (hgh : g ≠ h) (hw : TwoW w g h a pa b pb W) (h1 : w.heap.size ≤ g) :
    TwoW w g h a pa b pb ((((W.setCell ⟨g, 0, none⟩ (.int .i64 a.count)).setCell ⟨g, 1, none⟩ (.int .i64 a.total)).setCell ⟨g, 2, none⟩ (.int .i64 a.depth)).setCell ⟨g, 3, none⟩ (.pointer pa)) :=
  ⟨heap_set4 (room_of hw.xa), far_set4 (Ne.symm hgh) hw.xb, hw.na.set4 (room_of hw.xa), hw.nb.set4 (room_of hw.xa), below_set4 hw.u h1⟩
theorem Room.frozen {W : World} {g : Nat} (h : Room W g) : W.frozen? ⟨g, 0, none⟩ = false ∧ W.frozen? ⟨g, 1, none⟩ = false ∧ W.frozen? ⟨g, 2, none⟩ = false ∧ W.frozen? ⟨g, 3, none⟩ = false := by
  obtain ⟨v0, v1, v2, v3, h⟩ := h
  exact ⟨by simp [World.frozen?, h], by simp [World.frozen?, h], by simp [World.frozen?, h], by simp [World.frozen?, h]⟩
theorem set_same {W : World} {b o : Nat} {v : Value} (h : W.cell? ⟨b, o, none⟩ = some v) : W.setCell ⟨b, o, none⟩ v = W := by
  have e : W.heap.modify b (fun | .cells c elem frozen => .cells (if (none : Option Nat).isSome then c else c.setIfInBounds o v) elem frozen | x => x) = W.heap := by
    apply Array.ext_getElem?
    intro i
    rw [Array.getElem?_modify]
    by_cases hi : b = i
    · subst hi
      rw [if_pos rfl]
      unfold World.cell? at h
      cases hb : W.heap[b]? with
      | none => rfl
      | some x =>
        cases x with
        | cells c elem fr =>
          simp [hb] at h
          obtain ⟨ho, hv⟩ := Array.getElem?_eq_some_iff.1 h
          subst hv
          simp only [Option.map_some, Option.isSome_none, Bool.false_eq_true, if_false]
          congr 2
          apply Array.ext_getElem?
          intro j
          rw [Array.getElem?_setIfInBounds]
          by_cases hj : o = j
          · subst hj; simp [ho]
          · rw [if_neg hj]
        | _ => rfl
    · rw [if_neg hi]
  obtain ⟨hp, tp, dr, os, ou⟩ := W
  exact congrArg (fun x => (⟨x, tp, dr, os, ou⟩ : World)) e
theorem cells8 {w W : World} {g h : Nat} {a b : T} {pa pb : Option Addr} (hw : TwoW w g h a pa b pb W) : W.cell? ⟨g, 0, none⟩ = some (.int .i64 a.count) ∧ W.cell? ⟨g, 1, none⟩ = some (.int .i64 a.total) ∧ W.cell? ⟨g, 2, none⟩ = some (.int .i64 a.depth) ∧ W.cell? ⟨g, 3, none⟩ = some (.pointer pa) ∧ W.cell? ⟨h, 0, none⟩ = some (.int .i64 b.count) ∧ W.cell? ⟨h, 1, none⟩ = some (.int .i64 b.total) ∧ W.cell? ⟨h, 2, none⟩ = some (.int .i64 b.depth) ∧ W.cell? ⟨h, 3, none⟩ = some (.pointer pb) := by
  obtain ⟨a0, a1, a2, a3⟩ := rc_cells hw.xa
  obtain ⟨b0, b1, b2, b3⟩ := rc_cells hw.xb
  exact ⟨a0, a1, a2, a3, b0, b1, b2, b3⟩
end Go.Proofs.Ytdejdnkkbpmmlaa

namespace Go.Proofs.Ytdejdnkkbpmmlaa
open Go.RowKit

/-- what Remove makes -/
def remR (l : List Int) (i n : Int) : List Int × Int := if partE l.length i n = 0 then (l.take i.toNat ++ l.drop (i.toNat + n.toNat), 0) else ([], 4)
theorem partE_two (k : Nat) (i n : Int) : partE k i n = 0 ∨ partE k i n = 4 := by unfold partE; split <;> simp
theorem three_mem (w : World) (A B C : Obj) : (((w.alloc A).alloc B).alloc C).heap[w.heap.size]? = some A ∧ (((w.alloc A).alloc B).alloc C).heap[w.heap.size + 1]? = some B :=
  ⟨keep_heap (below_two (w.alloc A) B C) (heap_alloc_new w A), (three_heap w A B C).1⟩

set_option maxHeartbeats 1000000 in
theorem rem_bad {t : T} {p : Option Addr} {w : World} (i n : Int) (ho : Ok t.list) (hi : i ≤ 9223372036854775807) (hb : partE t.count i n = 4) :
    Calls Try.prog 40 #[.agg #[.int .i64 t.count, .int .i64 t.total, .int .i64 t.depth, .pointer p], .int .i64 i, .int .i64 n] w (GivesE (Ls []) 4 w) := by
  have HP := Lib.hid (part_any t.count t.total t.depth p i n ((w.alloc (.cells #[.int .i64 t.count, .int .i64 t.total, .int .i64 t.depth, .pointer p] 29)).alloc (.cells #[.int .i64 0, .int .i64 0, .int .i64 0, .pointer none] 29)) (T.bounds ho).2.2.1 hi)
  rw [hb] at HP
  have HB := Lib.hid (below_three w (.cells #[.int .i64 t.count, .int .i64 t.total, .int .i64 t.depth, .pointer p] 29) (.cells #[.int .i64 0, .int .i64 0, .int .i64 0, .pointer none] 29) (.cells #[.int .i64 t.count, .int .i64 t.total, .int .i64 t.depth, .pointer p] 29))
  have HX := Lib.hid (three_mem w (.cells #[.int .i64 t.count, .int .i64 t.total, .int .i64 t.depth, .pointer p] 29) (.cells #[.int .i64 0, .int .i64 0, .int .i64 0, .pointer none] 29) (.cells #[.int .i64 t.count, .int .i64 t.total, .int .i64 t.depth, .pointer p] 29)).2
  clear ho hi hb
  go_enter Try.func40, Try.ntmps40
  go_wp2_with fail
  refine HP.out.mono ?_
  rintro e w' ⟨rfl, rfl⟩
  go_wp2_with fail
  exact bodyPost_ret (res_rope_err rfl (g := w.heap.size + 1) rfl HX.out) rfl (gives_err HB.out)

set_option maxHeartbeats 2000000 in
theorem rem_ok {t : T} {p : Option Addr} {w : World} {i n : Nat} (hn : Nd w t p) (hbal : t.Bal) (ho : Ok t.list) (hi : i + n ≤ t.count) :
    Calls Try.prog 40 #[.agg #[.int .i64 t.count, .int .i64 t.total, .int .i64 t.depth, .pointer p], .int .i64 i, .int .i64 n] w (GivesE (Ls (t.list.take i ++ t.list.drop (i + n))) 0 w) := by
  have hc := (T.bounds ho).2.2.1
  have HP := Lib.hid (part_any t.count t.total t.depth p i n ((w.alloc (.cells #[.int .i64 t.count, .int .i64 t.total, .int .i64 t.depth, .pointer p] 29)).alloc (.cells #[.int .i64 0, .int .i64 0, .int .i64 0, .pointer none] 29)) hc (by omega))
  rw [partE_ok hi] at HP
  have hB0 := below_three w (.cells #[.int .i64 t.count, .int .i64 t.total, .int .i64 t.depth, .pointer p] 29) (.cells #[.int .i64 0, .int .i64 0, .int .i64 0, .pointer none] 29) (.cells #[.int .i64 t.count, .int .i64 t.total, .int .i64 t.depth, .pointer p] 29)
  have hX := Lib.hid (three_mem w (.cells #[.int .i64 t.count, .int .i64 t.total, .int .i64 t.depth, .pointer p] 29) (.cells #[.int .i64 0, .int .i64 0, .int .i64 0, .pointer none] 29) (.cells #[.int .i64 t.count, .int .i64 t.total, .int .i64 t.depth, .pointer p] 29)).2
  have HT := Lib.hid (take_any (w := (((w.alloc (.cells #[.int .i64 t.count, .int .i64 t.total, .int .i64 t.depth, .pointer p] 29)).alloc (.cells #[.int .i64 0, .int .i64 0, .int .i64 0, .pointer none] 29)).alloc (.cells #[.int .i64 t.count, .int .i64 t.total, .int .i64 t.depth, .pointer p] 29))) hi (hn.below hB0) hbal ho)
  clear hn hbal ho hi
  go_enter Try.func40, Try.ntmps40
  go_wp2_with fail
  refine HP.out.mono ?_
  rintro e w' ⟨rfl, rfl⟩
  go_wp2_with fail
  refine HT.out.mono ?_
  rintro e w1 ⟨a, pa, b, pb, k1, rfl, na, nb, kk⟩
  have hb2 := below_two w1 (.cells #[.int .i64 a.count, .int .i64 a.total, .int .i64 a.depth, .pointer pa] 29) (.cells #[.int .i64 b.count, .int .i64 b.total, .int .i64 b.depth, .pointer pb] 29)
  have hR1 : Room w1 (w.heap.size + 1) := ⟨_, _, _, _, keep_heap kk hX.out⟩
  have hR2 := hR1.keep hb2
  have hb1 := hB0.trans (kk.mono hB0.size)
  have hbw := hb1.trans (hb2.mono hb1.size)
  have NB := Lib.hid (nb.below hb2)
  have hz : w.heap.size + 1 < w1.heap.size := by obtain ⟨_, _, _, _, h⟩ := hR1; exact heap_lt h
  have K1 := Lib.hid k1
  obtain ⟨v0, v1, v2, v3, f0, f1, f2, f3, f4, f5, f6, f7⟩ := hR2.open_
  clear kk hB0 hb1 hb2 na nb k1 hR1
  go_wp2_with fail
  exact bodyPost_ret (res_rope_err rfl (g := w.heap.size + 1) rfl (heap_set4 hR2)) rfl (givesE_set ⟨K1.out.lb, K1.out.bb⟩ NB.out hR2 (below_set4 hbw (by omega)))

theorem rem_any {t : T} {p : Option Addr} {w : World} (i n : Int) (hn : Nd w t p) (hbal : t.Bal) (ho : Ok t.list) (hi : i ≤ 9223372036854775807) :
    Calls Try.prog 40 #[.agg #[.int .i64 t.count, .int .i64 t.total, .int .i64 t.depth, .pointer p], .int .i64 i, .int .i64 n] w (GivesE (Ls (remR t.list i n).1) (remR t.list i n).2 w) := by
  unfold remR
  rw [T.len]
  by_cases h : partE t.count i n = 0
  · rw [if_pos h]
    obtain ⟨a, b, rfl, rfl, hab⟩ := partE_cases h
    exact rem_ok hn hbal ho hab
  · rw [if_neg h]
    exact rem_bad i n ho hi ((partE_two _ _ _).resolve_left h)

/-- what Move makes -/
def movR (l : List Int) (i n x : Int) : List Int × Int :=
  if partE l.length i n = 0 then
    if partE (l.length - n.toNat) x 0 = 0 then
      ((l.take i.toNat ++ l.drop (i.toNat + n.toNat)).take x.toNat ++ (l.drop i.toNat).take n.toNat ++ (l.take i.toNat ++ l.drop (i.toNat + n.toNat)).drop x.toNat, 0)
    else ([], 4)
  else ([], 4)
set_option maxHeartbeats 1000000 in
theorem mov_bad {t : T} {p : Option Addr} {w : World} (i n x : Int) (ho : Ok t.list) (hi : i ≤ 9223372036854775807) (hb : partE t.count i n = 4) :
    Calls Try.prog 42 #[.agg #[.int .i64 t.count, .int .i64 t.total, .int .i64 t.depth, .pointer p], .int .i64 i, .int .i64 n, .int .i64 x] w (GivesE (Ls []) 4 w) := by
  have HP := Lib.hid (part_any t.count t.total t.depth p i n ((w.alloc (.cells #[.int .i64 t.count, .int .i64 t.total, .int .i64 t.depth, .pointer p] 29)).alloc (.cells #[.int .i64 0, .int .i64 0, .int .i64 0, .pointer none] 29)) (T.bounds ho).2.2.1 hi)
  rw [hb] at HP
  have HB := Lib.hid (below_three w (.cells #[.int .i64 t.count, .int .i64 t.total, .int .i64 t.depth, .pointer p] 29) (.cells #[.int .i64 0, .int .i64 0, .int .i64 0, .pointer none] 29) (.cells #[.int .i64 t.count, .int .i64 t.total, .int .i64 t.depth, .pointer p] 29))
  have HX := Lib.hid (three_mem w (.cells #[.int .i64 t.count, .int .i64 t.total, .int .i64 t.depth, .pointer p] 29) (.cells #[.int .i64 0, .int .i64 0, .int .i64 0, .pointer none] 29) (.cells #[.int .i64 t.count, .int .i64 t.total, .int .i64 t.depth, .pointer p] 29)).2
  clear ho hi hb
  go_enter Try.func42, Try.ntmps42
  go_wp2_with fail
  refine HP.out.mono ?_
  rintro e w' ⟨rfl, rfl⟩
  go_wp2_with fail
  exact bodyPost_ret (res_rope_err rfl (g := w.heap.size + 1) rfl HX.out) rfl (gives_err HB.out)

theorem tk_len {t a b : T} {i n : Nat} (hi : i + n ≤ t.count) (k : Tk t i n a b) : b.count = t.count - n := by
  have h1 := congrArg List.length k.lb
  rw [T.len, List.length_append, List.length_take, List.length_drop, T.len] at h1
  omega
theorem mv_sub (l : List Int) (i n x : Nat) : ∀ y ∈ (l.take i ++ l.drop (i + n)).take x ++ (l.drop i).take n ++ (l.take i ++ l.drop (i + n)).drop x, y ∈ l := by
  intro y hy
  have h : ∀ z ∈ l.take i ++ l.drop (i + n), z ∈ l := fun z hz => by
    rcases List.mem_append.1 hz with h | h
    · exact List.mem_of_mem_take h
    · exact List.mem_of_mem_drop h
  rcases List.mem_append.1 hy with h1 | h1
  · rcases List.mem_append.1 h1 with h2 | h2
    · exact h y (List.mem_of_mem_take h2)
    · exact List.mem_of_mem_drop (List.mem_of_mem_take h2)
  · exact h y (List.mem_of_mem_drop h1)
theorem mv_perm (l : List Int) (i n x : Nat) : ((l.take i ++ l.drop (i + n)).take x ++ (l.drop i).take n ++ (l.take i ++ l.drop (i + n)).drop x).Perm l := by
  have e : l.take i ++ ((l.drop i).take n ++ l.drop (i + n)) = l := by
    rw [← List.drop_drop, List.take_append_drop, List.take_append_drop]
  have h1 : ((l.take i ++ l.drop (i + n)).take x ++ (l.drop i).take n ++ (l.take i ++ l.drop (i + n)).drop x).Perm ((l.drop i).take n ++ (l.take i ++ l.drop (i + n))) := by
    refine (List.Perm.append_right _ List.perm_append_comm).trans ?_
    rw [List.append_assoc, List.take_append_drop]
  refine h1.trans ?_
  conv => rhs; rw [← e]
  rw [← List.append_assoc, ← List.append_assoc]
  exact List.Perm.append_right _ List.perm_append_comm
theorem perm_sum {a b : List Int} (h : a.Perm b) : a.sum = b.sum := by
  induction h with
  | nil => rfl
  | cons x _ ih => simp [ih]
  | swap x y l => simp; omega
  | trans _ _ h1 h2 => exact h1.trans h2
theorem Ok.perm {a b : List Int} (h : Ok b) (hp : a.Perm b) : Ok a := ⟨fun x hx => h.nn x (hp.subset hx), by rw [perm_sum hp]; exact h.sum, by rw [hp.length_eq]; exact h.len⟩

set_option maxHeartbeats 2000000 in
theorem mov_to {t : T} {p : Option Addr} {w : World} {i n : Nat} (x : Int) (hn : Nd w t p) (hbal : t.Bal) (ho : Ok t.list) (hi : i + n ≤ t.count) (hx : x ≤ 9223372036854775807) {L : List Int} {F : Int}
    (hLF : movR t.list i n x = (L, F)) :
    Calls Try.prog 42 #[.agg #[.int .i64 t.count, .int .i64 t.total, .int .i64 t.depth, .pointer p], .int .i64 i, .int .i64 n, .int .i64 x] w (GivesE (Ls L) F w) := by
  have hc := (T.bounds ho).2.2.1
  have HP := Lib.hid (part_any t.count t.total t.depth p i n ((w.alloc (.cells #[.int .i64 t.count, .int .i64 t.total, .int .i64 t.depth, .pointer p] 29)).alloc (.cells #[.int .i64 0, .int .i64 0, .int .i64 0, .pointer none] 29)) hc (by omega))
  rw [partE_ok hi] at HP
  have hB0 := below_three w (.cells #[.int .i64 t.count, .int .i64 t.total, .int .i64 t.depth, .pointer p] 29) (.cells #[.int .i64 0, .int .i64 0, .int .i64 0, .pointer none] 29) (.cells #[.int .i64 t.count, .int .i64 t.total, .int .i64 t.depth, .pointer p] 29)
  have hX := Lib.hid (three_mem w (.cells #[.int .i64 t.count, .int .i64 t.total, .int .i64 t.depth, .pointer p] 29) (.cells #[.int .i64 0, .int .i64 0, .int .i64 0, .pointer none] 29) (.cells #[.int .i64 t.count, .int .i64 t.total, .int .i64 t.depth, .pointer p] 29)).2
  have HT := Lib.hid (take_any (w := (((w.alloc (.cells #[.int .i64 t.count, .int .i64 t.total, .int .i64 t.depth, .pointer p] 29)).alloc (.cells #[.int .i64 0, .int .i64 0, .int .i64 0, .pointer none] 29)).alloc (.cells #[.int .i64 t.count, .int .i64 t.total, .int .i64 t.depth, .pointer p] 29))) hi (hn.below hB0) hbal ho)
  have HO := Lib.hid ho
  have HI := Lib.hid hi
  unfold movR at hLF
  rw [T.len, if_pos (partE_ok hi), Int.toNat_natCast, Int.toNat_natCast] at hLF
  have HLF := Lib.hid hLF
  clear hn hbal ho hi hLF
  go_enter Try.func42, Try.ntmps42
  go_wp2_with fail
  refine HP.out.mono ?_
  rintro e w' ⟨rfl, rfl⟩
  go_wp2_with fail
  refine HT.out.mono ?_
  rintro e w1 ⟨a, pa, b, pb, k1, rfl, na, nb, kk⟩
  have hb2 := below_two w1 (.cells #[.int .i64 a.count, .int .i64 a.total, .int .i64 a.depth, .pointer pa] 29) (.cells #[.int .i64 b.count, .int .i64 b.total, .int .i64 b.depth, .pointer pb] 29)
  have hR1 : Room w1 (w.heap.size + 1) := ⟨_, _, _, _, keep_heap kk hX.out⟩
  have hb1 := hB0.trans (kk.mono hB0.size)
  have hz : w.heap.size + 1 < w1.heap.size := by obtain ⟨_, _, _, _, h⟩ := hR1; exact heap_lt h
  have hbc := tk_len HI.out k1
  have hbl : Ok b.list := by
    rw [k1.lb]
    refine HO.out.sub ?_
    have h := List.take_append_drop i t.list
    have h2 : (t.list.take i ++ t.list.drop (i + n)).Sublist (t.list.take i ++ t.list.drop i) := (List.Sublist.refl _).append (by rw [← List.drop_drop]; exact List.drop_sublist _ _)
    rwa [h] at h2
  have HQ := Lib.hid (part_any b.count b.total b.depth pb x 0 ((w1.alloc (.cells #[.int .i64 a.count, .int .i64 a.total, .int .i64 a.depth, .pointer pa] 29)).alloc (.cells #[.int .i64 b.count, .int .i64 b.total, .int .i64 b.depth, .pointer pb] 29)) (T.bounds hbl).2.2.1 hx)
  have hb3 := (hb1.trans (hb2.mono hb1.size)).alloc (Nat.le_trans hb1.size hb2.size) (.cells #[.int .i64 b.count, .int .i64 b.total, .int .i64 b.depth, .pointer pb] 29)
  have hb3' : Below w1.heap.size w1 (((w1.alloc (.cells #[.int .i64 a.count, .int .i64 a.total, .int .i64 a.depth, .pointer pa] 29)).alloc (.cells #[.int .i64 b.count, .int .i64 b.total, .int .i64 b.depth, .pointer pb] 29)).alloc (.cells #[.int .i64 b.count, .int .i64 b.total, .int .i64 b.depth, .pointer pb] 29)) := below_three w1 _ _ _
  have hR3 := hR1.keep hb3'
  have hm := three_mem w1 (.cells #[.int .i64 a.count, .int .i64 a.total, .int .i64 a.depth, .pointer pa] 29) (.cells #[.int .i64 b.count, .int .i64 b.total, .int .i64 b.depth, .pointer pb] 29) (.cells #[.int .i64 b.count, .int .i64 b.total, .int .i64 b.depth, .pointer pb] 29)
  have HM := Lib.hid hm
  have NA := Lib.hid (na.below hb3')
  have NB := Lib.hid (nb.below hb3')
  have K1 := Lib.hid k1
  have HBL := Lib.hid hbl
  rw [← hbc] at HLF
  clear kk hB0 hb1 hb2 na nb k1 hR1 hbl hm hb3' HP HT hbc
  by_cases h : partE b.count x 0 = 0
  · rw [if_pos h] at HLF
    rw [h] at HQ
    obtain ⟨y, m0, rfl, hm0, hy⟩ := partE_cases h
    rw [Int.toNat_natCast] at HLF
    obtain ⟨hL, hF⟩ := Prod.mk.inj HLF.out
    subst hF
    have HLL := Lib.hid hL
    clear HLF hL
    have HY : Hid (y ≤ b.count) := Lib.hid (by omega)
    have HL := Lib.hid K1.out.la
    have HLb := Lib.hid K1.out.lb
    have HPO := Lib.hid (HO.out.perm (mv_perm t.list i n y))
    have HCC := Lib.hid (put_any (r := b) (m := a) (i := y) HY.out NB.out NA.out K1.out.bb K1.out.ba (by rw [HL.out, HLb.out]; exact HPO.out) HBL.out)
    clear h hy hm0
    go_wp2_with fail
    refine HQ.out.mono ?_
    rintro e w' ⟨rfl, rfl⟩
    clear HQ
    go_wp2_with fail
    refine HCC.out.mono ?_
    rintro e w3 ⟨t3, p3, k3, rfl, n3, kk⟩
    have hR4 := hR3.keep kk
    have hb4 := hb3.trans (kk.mono hb3.size)
    have K3 := Lib.hid k3
    obtain ⟨v0, v1, v2, v3, f0, f1, f2, f3, f4, f5, f6, f7⟩ := hR4.open_
    clear kk k3 hb3 hR3 HM
    go_wp2_with fail
    exact bodyPost_ret (res_rope_err rfl (g := w.heap.size + 1) rfl (heap_set4 hR4)) rfl (givesE_set ⟨by rw [K3.out.list, HL.out, HLb.out, HLL.out], K3.out.bal⟩ n3 hR4 (below_set4 hb4 (by omega)))
  · rw [if_neg h] at HLF
    rw [(partE_two _ _ _).resolve_left h] at HQ
    obtain ⟨hL, hF⟩ := Prod.mk.inj HLF.out
    subst hL
    subst hF
    clear h HLF
    go_wp2_with fail
    refine HQ.out.mono ?_
    rintro e w' ⟨rfl, rfl⟩
    clear HQ
    obtain ⟨v0, v1, v2, v3, f0, f1, f2, f3, f4, f5, f6, f7⟩ := hR3.open_
    go_wp2_with fail
    exact bodyPost_ret (res_rope_err rfl (g := w.heap.size + 1) rfl (heap_set4 hR3)) rfl (gives_err (below_set4 hb3 (by omega)))

theorem mov_any {t : T} {p : Option Addr} {w : World} (i n x : Int) (hn : Nd w t p) (hbal : t.Bal) (ho : Ok t.list) (hi : i ≤ 9223372036854775807) (hx : x ≤ 9223372036854775807) :
    Calls Try.prog 42 #[.agg #[.int .i64 t.count, .int .i64 t.total, .int .i64 t.depth, .pointer p], .int .i64 i, .int .i64 n, .int .i64 x] w (GivesE (Ls (movR t.list i n x).1) (movR t.list i n x).2 w) := by
  by_cases h : partE t.count i n = 0
  · obtain ⟨a, b, rfl, rfl, hab⟩ := partE_cases h
    exact mov_to x hn hbal ho hab hx rfl
  · unfold movR
    rw [T.len, if_neg h]
    exact mov_bad i n x ho hi ((partE_two _ _ _).resolve_left h)
end Go.Proofs.Ytdejdnkkbpmmlaa
