/- Move of an index. -/
import Derived.Test.YtdejdnkkbpmmlaaMParW
import Derived.Maps.OwnIn
namespace Go.Proofs.Ytdejdnkkbpmmlaa
open Go.RowKit Go.Shelf

/-- the boxes of the receiver, of 'at' and 'to', and the cell of the result -/
structure Mo (w U : World) (bx : Array Value) (a x : Int) : Prop where
  box : U.heap[w.heap.size]? = some (.cells bx 32 (0, 0))
  ba : U.heap[w.heap.size + 1]? = some (.cells #[.int .i64 a] 3 (0, 0))
  bt : U.heap[w.heap.size + 1 + 1]? = some (.cells #[.int .i64 x] 3 (0, 0))
  rm : Room5 U (w.heap.size + 1 + 1 + 1)
  u : Below w.heap.size w U
theorem Mo.next {w U U' : World} {bx : Array Value} {a x : Int} (h : Mo w U bx a x) (kk : Below U.heap.size U U') : Mo w U' bx a x :=
  ⟨keep_heap kk h.box, keep_heap kk h.ba, keep_heap kk h.bt, h.rm.keep kk, h.u.trans (kk.mono h.u.size)⟩
theorem mo_start (w : World) (bx : Array Value) (a x : Int) : Mo w ((((w.alloc (.cells bx 32)).alloc (.cells #[.int .i64 a] 3)).alloc (.cells #[.int .i64 x] 3)).alloc (.cells #[.int .i64 0, .int .i64 0, .int .i64 0, .pointer none, .slice none 0 0] 32)) bx a x := by
  obtain ⟨q1, q2⟩ := two_heap w (.cells bx 32) (.cells #[.int .i64 a] 3)
  obtain ⟨q3, q4⟩ := two_heap ((w.alloc (.cells bx 32)).alloc (.cells #[.int .i64 a] 3)) (.cells #[.int .i64 x] 3) (.cells #[.int .i64 0, .int .i64 0, .int .i64 0, .pointer none, .slice none 0 0] 32)
  have b1 := below_two w (.cells bx 32) (.cells #[.int .i64 a] 3)
  have b2 := below_two ((w.alloc (.cells bx 32)).alloc (.cells #[.int .i64 a] 3)) (.cells #[.int .i64 x] 3) (.cells #[.int .i64 0, .int .i64 0, .int .i64 0, .pointer none, .slice none 0 0] 32)
  refine ⟨keep_heap b2 q1, keep_heap b2 q2, by simpa using q3, ⟨_, _, _, _, _, by simpa using q4⟩, b1.trans (b2.mono b1.size)⟩
theorem Mo.lt {w U : World} {bx : Array Value} {a x : Int} (h : Mo w U bx a x) : w.heap.size + 1 + 1 + 1 < U.heap.size := by
  obtain ⟨_, _, _, _, _, hr⟩ := h.rm
  exact heap_lt hr
theorem Mo.c {w U : World} {bx : Array Value} {a x : Int} (h : Mo w U bx a x) : U.cell? ⟨w.heap.size + 1, 0, none⟩ = some (.int .i64 a) ∧ U.cell? ⟨w.heap.size + 1 + 1, 0, none⟩ = some (.int .i64 x) :=
  ⟨cell_of_row _ _ 0 _ 3 (0, 0) h.ba, cell_of_row _ _ 0 _ 3 (0, 0) h.bt⟩
set_option maxRecDepth 100000 in
set_option maxHeartbeats 4000000 in
theorem mv_bad {w : World} {r : List (Int × Bool)} {t : T} {p A : Option Addr} {c : Nat} {xs : List S.Sp} (h : Ix w r t p A c xs) (i n x : Int) (hi : i ≤ 9223372036854775807) (hx : x ≤ 9223372036854775807) (hE : movI r i n x = ([], 4)) :
    Calls Try.prog 24 #[.agg #[.int .i64 t.count, .int .i64 t.total, .int .i64 t.depth, .pointer p, .slice A xs.length c], .int .i64 i, .int .i64 n, .int .i64 x] w (IxE ([], 4) w) := by
  have hM := mo_start w #[.int .i64 t.count, .int .i64 t.total, .int .i64 t.depth, .pointer p, .slice A xs.length c] i x
  obtain ⟨x0, x1, x2, x3, x4⟩ := box5 hM.box
  obtain ⟨y0, y1⟩ := hM.c
  have HI := h.next hM.u
  have hk := mov_any i n x HI.nd HI.ls.bal HI.ok hi hx
  rw [HI.ls.list, movI_sz, hE] at hk
  have HK := Lib.hid hk
  have HM := Lib.hid hM
  clear h HI hk hE hM
  go_enter Try.func24, Try.ntmps24
  go_wp2_with fail
  refine HK.out.mono ?_
  rintro e w1 ⟨t2, p2, _, rfl, _, kk⟩
  have M1 := Lib.hid ((HM.out.next kk).next (below_new w1 (.cells #[.int .i64 t2.count, .int .i64 t2.total, .int .i64 t2.depth, .pointer p2] 29)))
  clear kk HM HK x0 x1 x2 x3 x4 y0 y1
  obtain ⟨v0, v1, v2, v3, v4, c0, c1, c2, c3, c4, f0, f1, f2, f3, f4⟩ := M1.out.rm.open_
  go_wp2_with fail
  exact bodyPost_ret (res_ix_err (t := 8) (u := 9) rfl (g := w.heap.size + 1 + 1 + 1) rfl (heap_set5 M1.out.rm)) rfl (ixe_err M1.out.u (by omega))
end Go.Proofs.Ytdejdnkkbpmmlaa

namespace Go.Proofs.Ytdejdnkkbpmmlaa
open Go.RowKit Go.Shelf

/-- where a move brings a span, as the program reckons it -/
def shw (i x : Int) (s : S.Sp) : S.Sp := (wrap64 (wrap64 (s.1 - i) + x), wrap64 (wrap64 (s.2 - i) + x))
theorem wrap_small {a : Int} (h0 : -9223372036854775808 ≤ a) (h1 : a ≤ 9223372036854775807) : wrap64 a = a := by
  unfold wrap64
  omega
theorem shw_moved {i n x : Nat} {xs : List S.Sp} (hv : S.Val (-1) xs) (hi : i + n ≤ 1024) (hx : x ≤ 1024) : (cuts i ((i : Int) + n) xs).map (shw i x) = moved i n x xs := by
  unfold moved
  refine List.map_congr_left fun s hs => ?_
  obtain ⟨k, hk, rfl⟩ := List.mem_iff_getElem.1 hs
  have h1 := val_at (cuts_val (a := i) (b := (i : Int) + n) hv) k hk
  have h2 := cuts_hi xs _ hs
  generalize (cuts i ((i : Int) + n) xs)[k] = s at *
  unfold shw sh
  rw [wrap_small (a := s.1 - i) (by omega) (by omega), wrap_small (a := s.2 - i) (by omega) (by omega), wrap_small (by omega) (by omega), wrap_small (by omega) (by omega)]
  exact Prod.ext (by show s.1 - i + x = s.1 + (x - i); omega) (by show s.2 - i + x = s.2 + (x - i); omega)
theorem ex_putObj {M g : Nat} {W : World} {l : Nat} (o' : Obj) (hl : M ≤ l) : Ex M g W (W.putObj l o') :=
  ⟨by simp, fun i h1 _ => World.putObj_heap_other (by omega)⟩
theorem Nd.putObj {W : World} {D : Nat} {ds : Option (List Deferred)} {o' : Obj} (hD : W.heap[D]? = some (.deferred ds)) : ∀ {t : T} {p : Option Addr}, Nd W t p → Nd (W.putObj D o') t p
  | .nil, _, h => h
  | .node _ _ _, _, ⟨b, pl, pr, e, h, hl, hr'⟩ => ⟨b, pl, pr, e, (World.putObj_heap_other (fun e => by subst e; rw [hD] at h; cases h)).trans h, Nd.putObj hD hl, Nd.putObj hD hr'⟩
theorem rd_putObj {W : World} {D : Nat} {ds : Option (List Deferred)} {o' : Obj} (hD : W.heap[D]? = some (.deferred ds)) {A : Option Addr} {xs : List S.Sp} (h : S.Rd W W.heap.size A xs) : S.Rd (W.putObj D o') (W.putObj D o').heap.size A xs := fun k hk => by
  obtain ⟨b, o, e, h1, h2, h3⟩ := h k hk
  have hne : b ≠ D := fun e => by
    subst e
    simp [World.cell?, hD] at h2
  have hc : ∀ q, (W.putObj D o').cell? ⟨b, q, none⟩ = W.cell? ⟨b, q, none⟩ := fun q => by
    have : (W.putObj D o').heap[b]? = W.heap[b]? := World.putObj_heap_other hne
    simp [World.cell?, this]
  exact ⟨b, o, e, by simpa using h1, (hc _).trans h2, (hc _).trans h3⟩
/-- the memory at the last statement -/
structure Vb (w U : World) (g1 g2 g3 D : Nat) (bx : Array Value) (t : T) (p A2 : Option Addr) (c2 : Nat) (mv : List S.Sp) (A4 : Option Addr) (o4 : List S.Sp) : Prop where
  va : Va w U g1 g2 bx t p
  bx3 : Boxed U g3 30 (.slice A2 mv.length c2)
  rd2 : S.Rd U U.heap.size A2 mv
  rd4 : S.Rd U U.heap.size A4 o4
  df : U.heap[D]? = some (.deferred (some []))
  f2 : Far g1 A2 mv
  f4 : Far g1 A4 o4
  d3 : g1 < g3
  dD : g1 < D
theorem Vb.next {w U U' : World} {g1 g2 g3 D : Nat} {bx : Array Value} {t : T} {p A2 : Option Addr} {c2 : Nat} {mv : List S.Sp} {A4 : Option Addr} {o4 : List S.Sp} (h : Vb w U g1 g2 g3 D bx t p A2 c2 mv A4 o4) (kk : Below U.heap.size U U') : Vb w U' g1 g2 g3 D bx t p A2 c2 mv A4 o4 :=
  ⟨h.va.next kk, keep_heap kk h.bx3, (h.rd2.below kk).more kk.size, (h.rd4.below kk).more kk.size, keep_heap kk h.df, h.f2, h.f4, h.d3, h.dD⟩
theorem Vb.set5 {w U : World} {g1 g2 g3 D : Nat} {bx : Array Value} {t : T} {p A2 : Option Addr} {c2 : Nat} {mv : List S.Sp} {A4 : Option Addr} {o4 : List S.Sp} (h : Vb w U g1 g2 g3 D bx t p A2 c2 mv A4 o4) (a0 a1 a2 a3 a4 : Value) :
    Vb w (((((U.setCell ⟨g1, 0, none⟩ a0).setCell ⟨g1, 1, none⟩ a1).setCell ⟨g1, 2, none⟩ a2).setCell ⟨g1, 3, none⟩ a3).setCell ⟨g1, 4, none⟩ a4) g1 g2 g3 D bx t p A2 c2 mv A4 o4 :=
  ⟨h.va.set5 _ _ _ _ _, far_set5 (Nat.ne_of_gt h.d3) h.bx3, rd_set5 h.rd2 h.f2, rd_set5 h.rd4 h.f4, far_set5 (Nat.ne_of_gt h.dD) h.df, h.f2, h.f4, h.d3, h.dD⟩
/-- the new index is stored into the cell of the result; then the loop's deferred calls are taken -/
theorem Vb.ret {w U : World} {g1 g2 g3 D : Nat} {bx : Array Value} {t : T} {p A2 : Option Addr} {c2 : Nat} {mv : List S.Sp} {A4 : Option Addr} {o4 : List S.Sp} (h : Vb w U g1 g2 g3 D bx t p A2 c2 mv A4 o4)
    {A : Option Addr} {c : Nat} {xs : List S.Sp} {r : List (Int × Bool)} (hs : Ls (sz r) t) (hset : IsSet r xs) (hrd : S.Rd U U.heap.size A xs) (hf : Far g1 A xs) (hc : xs.length ≤ c) (hv : Vr r) (hwD : w.heap.size ≤ D) (hall : ∀ g, g < w.heap.size → Far g A xs) :
    ∃ W', (((((U.setCell ⟨g1, 0, none⟩ (.int .i64 t.count)).setCell ⟨g1, 1, none⟩ (.int .i64 t.total)).setCell ⟨g1, 2, none⟩ (.int .i64 t.depth)).setCell ⟨g1, 3, none⟩ (.pointer p)).setCell ⟨g1, 4, none⟩ (.slice A xs.length c)) = W' ∧
      W'.heap[D]? = some (.deferred (some [])) ∧ (W'.putObj D (.deferred none)).heap[g1]? = some (.cells #[.int .i64 t.count, .int .i64 t.total, .int .i64 t.depth, .pointer p, .slice A xs.length c] 32 (0, 0)) ∧
      IxE (r, 0) w (.returned (.tuple #[.agg #[.int .i64 t.count, .int .i64 t.total, .int .i64 t.depth, .pointer p, .slice A xs.length c], .int .i64 0])) (W'.putObj D (.deferred none)) := by
  have h5 := h.set5 (.int .i64 t.count) (.int .i64 t.total) (.int .i64 t.depth) (.pointer p) (.slice A xs.length c)
  refine ⟨_, rfl, h5.df, (World.putObj_heap_other (Nat.ne_of_lt h.dD)).trans (heap_set5 h.va.rm), t, p, A, c, xs, rfl, ⟨Nd.putObj h5.df h5.va.nd, hs, rd_putObj h5.df (rd_set5 hrd hf), hset, hc, hv⟩, ?_, hall⟩
  exact h5.va.u.trans ((belowK_b (w := w) (Nat.le_refl _) _ D _ _ hwD h5.df rfl rfl))
end Go.Proofs.Ytdejdnkkbpmmlaa

namespace Go.Proofs.Ytdejdnkkbpmmlaa
open Go.RowKit Go.Shelf
attribute [local go_sem] Oper.semAt_some

set_option maxRecDepth 100000 in
set_option maxHeartbeats 16000000 in
theorem mv_ok {w : World} {r : List (Int × Bool)} {t : T} {p A : Option Addr} {c : Nat} {xs : List S.Sp} (h : Ix w r t p A c xs) (i n x : Nat) (hp : i + n ≤ r.length) (hx : x + n ≤ r.length) :
    Calls Try.prog 24 #[.agg #[.int .i64 t.count, .int .i64 t.total, .int .i64 t.depth, .pointer p, .slice A xs.length c], .int .i64 i, .int .i64 n, .int .i64 x] w (IxE ((r.take i ++ r.drop (i + n)).take x ++ (r.drop i).take n ++ (r.take i ++ r.drop (i + n)).drop x, 0) w) := by
  have hrl := h.vr.len
  have hE : movI r i n x = ((r.take i ++ r.drop (i + n)).take x ++ (r.drop i).take n ++ (r.take i ++ r.drop (i + n)).drop x, 0) := by
    unfold movI
    rw [if_pos (by unfold partE; rw [if_neg (by omega)]), if_pos (by unfold partE; rw [if_neg (by simp; omega)])]
    rfl
  have hM := mo_start w #[.int .i64 t.count, .int .i64 t.total, .int .i64 t.depth, .pointer p, .slice A xs.length c] i x
  obtain ⟨x0, x1, x2, x3, x4⟩ := box5 hM.box
  obtain ⟨y0, y1⟩ := hM.c
  have HI := h.next hM.u
  have hk := mov_any (i : Int) n x HI.nd HI.ls.bal HI.ok (by omega) (by omega)
  have hvr := movI_vr h.vr (i : Int) n x
  rw [HI.ls.list, movI_sz, hE] at hk
  rw [hE] at hvr
  have HK := Lib.hid hk
  have HVR := Lib.hid hvr
  have HM := Lib.hid hM
  have HIX := Lib.hid h
  obtain ⟨R, hR⟩ : ∃ R, (r.take i ++ r.drop (i + n)).take x ++ (r.drop i).take n ++ (r.take i ++ r.drop (i + n)).drop x = R := ⟨_, rfl⟩
  have HR := Lib.hid hR
  rw [hR] at HK HVR ⊢
  clear h HI hk hvr hE hM hR
  refine (callsIn_wide (n := 4)).1 ?_
  refine callsIn_of_wp_marks Try.func24 rfl trivial ?_ rfl
  simp only [Try.ntmps24, List.size_toArray, List.length_cons, List.length_nil, Nat.reduceAdd, Nat.reduceSub, Array.replicate_succ, Array.replicate_zero, List.push_toArray, List.append_toArray, List.nil_append, List.cons_append]
  refine wpIn_wide.2 ?_
  go_wp2_with fail
  refine HK.out.mono ?_
  rintro e w1 ⟨t2, p2, hs2, rfl, hn2, kk⟩
  have bn := below_new w1 (.cells #[.int .i64 t2.count, .int .i64 t2.total, .int .i64 t2.depth, .pointer p2] 29)
  have M1 := Lib.hid ((HM.out.next kk).next bn)
  have HV := Lib.hid (show (w1.alloc (.cells #[.int .i64 t2.count, .int .i64 t2.total, .int .i64 t2.depth, .pointer p2] 29)).heap[w1.heap.size]? = some (.cells (rc t2.count t2.total t2.depth p2) 29 (0, 0)) from heap_alloc_new w1 _)
  have HN := Lib.hid (hn2.below bn)
  have HLS := Lib.hid hs2
  have hg2 := (HM.out.next kk).lt
  clear kk bn HM HK hs2 hn2 x0 x1 x2 x3 x4 y0 y1
  go_upto_region 4 with fail
  obtain ⟨W2, hW2⟩ : ∃ W, w1.alloc (.cells #[.int .i64 t2.count, .int .i64 t2.total, .int .i64 t2.depth, .pointer p2] 29) = W := ⟨_, rfl⟩
  obtain ⟨g2, hgg⟩ : ∃ g, w1.heap.size = g := ⟨_, rfl⟩
  rw [hW2] at M1 HV HN ⊢
  rw [hgg] at HV hg2 ⊢
  clear hW2 hgg
  have bn := below_new W2 (.cells #[.slice none 0 0] 30)
  obtain ⟨x0, x1, x2, x3, x4⟩ := box5 (M1.out.next bn).box
  obtain ⟨y0, y1⟩ := (M1.out.next bn).c
  have B3 := Lib.hid bn
  have BX := Lib.hid (Boxed.new W2 30 (.slice none 0 0))
  have hg3 : g2 < W2.heap.size := heap_lt HV.out
  clear bn
  go_upto_region 5 with fail
  obtain ⟨W3, hW3⟩ : ∃ W, W2.alloc (.cells #[.slice none 0 0] 30) = W := ⟨_, rfl⟩
  obtain ⟨g3, hgg⟩ : ∃ g, W2.heap.size = g := ⟨_, rfl⟩
  have hs3 : W3.heap.size = g3 + 1 := by rw [← hW3, ← hgg]; simp
  rw [hW3] at B3 BX x0 x1 x2 x3 x4 y0 y1 ⊢
  rw [hgg] at BX hg3 B3 ⊢
  have HG3 := Lib.hid hgg
  clear hW3 hgg
  have s1 : IntKind.i64.wrap ((i : Int) + (n : Int)) = (i : Int) + (n : Int) := IntWalk.i64_in _ (by omega)
  go_wp2_with (refine (parts_any _ _ _ _ _ _).mono ?_; rintro e w5 ⟨rfl, hw5⟩)
  have b5 := below_three W3 (.cells #[.slice A xs.length c] 30) (.cells #[.int .i64 i] 3) (.cells #[.int .i64 ((i : Int) + (n : Int))] 3)
  have h1 := cell_of_row _ W3.heap.size 0 _ 30 (0, 0) (three_mem W3 (.cells #[.slice A xs.length c] 30) (.cells #[.int .i64 i] 3) (.cells #[.int .i64 ((i : Int) + (n : Int))] 3)).1
  have h2 := cell_of_row _ (W3.heap.size + 1) 0 _ 3 (0, 0) (three_heap W3 (.cells #[.slice A xs.length c] 30) (.cells #[.int .i64 i] 3) (.cells #[.int .i64 ((i : Int) + (n : Int))] 3)).1
  have h3 := cell_of_row _ (W3.heap.size + 1 + 1) 0 _ 3 (0, 0) (three_heap W3 (.cells #[.slice A xs.length c] 30) (.cells #[.int .i64 i] 3) (.cells #[.int .i64 ((i : Int) + (n : Int))] 3)).2
  have hsz : (((W3.alloc (.cells #[.slice A xs.length c] 30)).alloc (.cells #[.int .i64 i] 3)).alloc (.cells #[.int .i64 ((i : Int) + (n : Int))] 3)).heap.size = W3.heap.size + 1 + 1 + 1 := by simp
  obtain ⟨W5, hW5⟩ : ∃ W, ((W3.alloc (.cells #[.slice A xs.length c] 30)).alloc (.cells #[.int .i64 i] 3)).alloc (.cells #[.int .i64 ((i : Int) + (n : Int))] 3) = W := ⟨_, rfl⟩
  rw [hW5] at b5 h1 h2 h3 hsz ⊢
  rw [hs3] at b5 h1 h2 h3 hsz
  have BX5 := Lib.hid (show Boxed W5 g3 30 (.slice none 0 0) from (b5.block g3 (by omega)).trans BX.out)
  have B5 := Lib.hid (show Below g3 W2 W5 from B3.out.trans (b5.mono (by omega)))
  have hxl : xs.length ≤ 1000000 := by have := HIX.out.set.len; omega
  have U5 := Lib.hid (show Below w.heap.size w W5 from M1.out.u.trans (B5.out.mono (by have := HG3.out; have := M1.out.u.size; omega)))
  have HST := Lib.hid (parts_stops 3 (by omega) (g3 + 1) (g3 + 1 + 1) (g3 + 1 + 1 + 1) g3 c A xs i ((i : Int) + n) hxl W5 (by omega) (by omega) (by omega) (by omega) (by omega) (by omega) h1 h2 h3 ((HIX.out.rd.below U5.out).more (by omega)))
  clear h1 h2 h3 hW5 hw5 BX b5 x0 x1 x2 x3 x4 y0 y1 s1 B3
  obtain ⟨i0, hi0, hz0, hz1, hz2⟩ := info_parts S.Try.info72
  refine (wpIn_wide (n := 4)).1 ?_
  refine wpIn_rangeFunc_ownH (F := Fence.wide) (n := 4) rfl (by omega) (gf := 60) (lb := #[.pointer (some ⟨g3 + 1, 0, none⟩), .pointer (some ⟨g3 + 1 + 1, 0, none⟩), .pointer (some ⟨g3 + 1 + 1 + 1, 0, none⟩)]) rfl trivial (enters_of Try.func60 (by kernel_rfl) rfl)
    HST.out (fun h k => Ex.trans h k) (fun W l o o' hl _ _ _ => ex_putObj o' hl) (Below.refl _ _) (fun _ => rfl)
    (fun (pre : List S.Sp) W => (∃ v, Boxed W g3 30 v ∧ W.ownsRow g3 72 2 v pre.length (S.flat (pre.map (shw i x))) ∧ ∀ g, v.ownBlock = some g → W5.heap.size ≤ g) ∧ Below g3 W5 W)
    (fun _ _ _ => False)
    (OwnFrom.and (Own.from (holdsRow_own g3 g3 30 72 2 (fun (pre : List S.Sp) => pre.length) (fun (pre : List S.Sp) => S.flat (pre.map (shw i x))) (fun _ v => ∀ g, v.ownBlock = some g → W5.heap.size ≤ g)) _) (ownFrom_below (by omega) (by omega)))
    (fun _ _ _ _ _ hs _ _ => hs)
    ⟨⟨_, BX5.out, World.ownsRow_nil _ _ _ _, fun _ h => by cases h⟩, Below.refl _ _⟩
    (fun y a' W => ∃ Bx, g3 < Bx ∧ W.heap[Bx]? = some (.cells #[.int .i64 y.1, .int .i64 y.2] 72 (0, 0)) ∧ a' = { tmps := #[.agg #[.int .i64 t.count, .int .i64 t.total, .int .i64 t.depth, .pointer p, .slice A xs.length c], .int .i64 i, .int .i64 n, .int .i64 x, .pointer (some ⟨w.heap.size, 0, none⟩), .pointer (some ⟨w.heap.size + 1, 0, none⟩), undef, .pointer (some ⟨w.heap.size + 1 + 1, 0, none⟩), .pointer (some ⟨w.heap.size + 1 + 1 + 1, 0, none⟩), .int .i64 0, .pointer (some ⟨g2, 0, none⟩), .int .i64 0, .pointer (some ⟨g3, 0, none⟩), .pointer (some ⟨Bx, 0, none⟩), undef, undef, .tuple #[.agg #[.int .i64 t2.count, .int .i64 t2.total, .int .i64 t2.depth, .pointer p2], .int .i64 0], .pointer (some ⟨w.heap.size, 0, none⟩), .agg #[.int .i64 t.count, .int .i64 t.total, .int .i64 t.depth, .pointer p], .int .i64 i, .int .i64 n, .int .i64 x, .tuple #[.agg #[.int .i64 t2.count, .int .i64 t2.total, .int .i64 t2.depth, .pointer p2], .int .i64 0], .agg #[.int .i64 t2.count, .int .i64 t2.total, .int .i64 t2.depth, .pointer p2], .int .i64 0, .int .i64 0, .bool false, undef, undef, .pointer (some ⟨w.heap.size, 4, none⟩), .slice A xs.length c, .int .i64 i, .int .i64 i, .int .i64 n, .int .i64 ((i : Int) + (n : Int)), .func (.func 60) #[] #[.pointer (some ⟨g3 + 1, 0, none⟩), .pointer (some ⟨g3 + 1 + 1, 0, none⟩), .pointer (some ⟨g3 + 1 + 1 + 1, 0, none⟩)], .agg #[.int .i64 y.1, .int .i64 y.2], undef, undef, undef, undef, undef, undef, undef, undef, undef, undef, undef, undef, undef, undef, undef, undef, undef, undef, undef, undef, undef, undef, undef, undef, undef, undef, undef, undef, undef, undef, undef, undef, undef, undef, undef, undef, undef, undef, undef], defers := [] })
    ?hAx ?assign ?body ?done ?stop
  case hAx =>
    intro y a' s X Y row hs hg hr
    obtain ⟨Bx, e1, e2, e3⟩ := hs
    refine ⟨Bx, e1, (hg.block Bx (heap_lt e2) (fun e => ?_)).trans e2, e3⟩
    obtain ⟨o, ho, hc⟩ := (hr Bx e.symm).2
    rw [e2] at ho
    cases ho
    cases hc
  case assign =>
    rintro l pre y W K ⟨⟨v, hv, hrow, hG⟩, hB⟩ hK
    have hsW := hB.size
    gi_wp2
    exact hK _ _ ((KeepsOthers.alloc _ _).from _) ((Ex.refl _ _ W).alloc hsW _) ⟨⟨v, hv.alloc _, hrow.alloc _, hG⟩, hB.alloc (by omega) _⟩ ⟨W.heap.size, by omega, heap_alloc_new W _, rfl⟩
  case body =>
    rintro l pre y a' W hl ⟨rr, hrr⟩ ⟨⟨v, hv, hrow, hG⟩, hB⟩ ⟨Bx, hBx, hbx, rfl⟩ hlt
    have hc := hv.cell
    have k2 : Below g3 W2 W := B5.out.trans hB
    have MW := M1.out.next (by rw [HG3.out]; exact k2)
    obtain ⟨y0, y1⟩ := MW.c
    have z0 := cell_of_row W Bx 0 _ 72 (0, 0) hbx
    have z1 := cell_of_row W Bx 1 _ 72 (0, 0) hbx
    have hsW := hB.size
    clear MW k2
    have HSH : Hid (S.flat ((pre ++ [y]).map (shw i x)) = S.flat (pre.map (shw i x)) ++ [.int .i64 (shw i x y).1, .int .i64 (shw i x y).2]) := Lib.hid (by rw [List.map_append, S.flat_app]; rfl)
    have hpl : pre.length < 1000000 := by omega
    gi_wp2_with (
      gi_at_builtin
      refine wpListIn_append_own_at _ rfl (.tmp 37) (.tmp 51) 30 rfl g3 72 i0 _ 2 16 Try.underlying30 hi0 hz0 hz1 hz2 rfl (by omega) v pre.length (S.flat (pre.map (shw i x))) rfl (hrow.alloc _) ⟨W.heap.size, 0, none⟩ 1 1 [.int .i64 (shw i x y).1, .int .i64 (shw i x y).2] rfl rfl
        (World.news_of_block (cs := #[.int .i64 (shw i x y).1, .int .i64 (shw i x y).2]) (t := 72) (fr := (0, 0)) (heap_alloc_new W _)) (by simp [Value.oneCell']) (by simp [maxLen]; omega) (by omega) (by simp; omega) ?_
      intro v' w1 hown' hgrow _ hat
      obtain ⟨g', cap', rfl⟩ := ownsRow_succ hown'
      obtain ⟨hv1, hv2, hr2, hk2, hb2⟩ := hv.appended (by decide) hrow (by omega) (Nat.le_refl _) hown' hgrow
      have hc1 := hv1.cell
      have hf1 := hv1.frozen)
    refine ⟨hk2.from _, ⟨hb2.size, fun k hk1 hk3 => ?_⟩, ⟨_, hv2, ?_, fun g hgo => ?_⟩, hB.trans hb2⟩
    · rw [Below.heap_setCell _ _ _ k hk3]
      refine (hgrow.block k (by simp; omega) (fun e => ?_)).trans (Below.heap_alloc W _ k (by omega))
      have := hG k e.symm
      omega
    · rw [HSH.out]; simpa using hr2
    · rcases hat with e | e
      · exact hG g (e ▸ hgo)
      · rw [e] at hgo
        cases hgo
        simp
        omega
  case done =>
    rintro D ys W hD rfl ⟨⟨v, hv, hrow, hG⟩, hB⟩ hK
    have k2 : Below W2.heap.size W2 W := by rw [HG3.out]; exact B5.out.trans hB
    have MW := Lib.hid (M1.out.next k2)
    have VAW := Lib.hid (show Va w W (w.heap.size + 1 + 1 + 1) g2 #[.int .i64 t.count, .int .i64 t.total, .int .i64 t.depth, .pointer p, .slice A xs.length c] t2 p2 from ⟨MW.out.box, keep_heap k2 HV.out, HN.out.below k2, MW.out.rm, MW.out.u, by omega, hg2⟩)
    have hown : S.Own W g3 72 v (moved i n x xs) := by
      have e := shw_moved (i := i) (n := n) (x := x) HIX.out.set.val (by omega) (by omega)
      have e2 : (moved i n x xs).length = (cuts i ((i : Int) + n) xs).length := by rw [← e, List.length_map]
      unfold S.Own
      rw [e2, ← e]
      exact hrow
    obtain ⟨A2, c2, rfl, hc2, hrd2, hfr2⟩ := hown.rdf
    have hmc := moved_chk (a := i) HIX.out.set hrl (show x + n ≤ 1024 by omega)
    have hmh := moved_has (a := i) (n := n) (x := x) HIX.out.set
    obtain ⟨mv, hmv⟩ : ∃ mv, moved i n x xs = mv := ⟨_, rfl⟩
    rw [hmv] at hv hc2 hrd2 hmc hmh
    have HV3 := Lib.hid hv
    have HRD2 := Lib.hid hrd2
    have HF2 := Lib.hid (show Far (w.heap.size + 1 + 1 + 1) A2 mv from far_new hfr2 (by omega))
    have HMC := Lib.hid hmc
    have HMH := Lib.hid hmh
    have HDK := Lib.hid hK
    have hDw : w.heap.size ≤ D := by have := U5.out.size; omega
    have hD3 : w.heap.size + 1 + 1 + 1 < D := by omega
    have hR1l : (r.take i ++ r.drop (i + n)).length = r.length - n := by simp; omega
    have HS1 := Lib.hid (sRem (c := c) HIX.out.set ((HIX.out.rd.below MW.out.u).more MW.out.u.size) hrl i n hp)
    obtain ⟨x0, x1, x2, x3, x4⟩ := box5 MW.out.box
    obtain ⟨y0, y1⟩ := MW.out.c
    clear hv hrd2 hmc hmh hK hrow hB k2 hown hG hfr2 hmv M1 HV HN B5 U5 HST BX5 hi0 hz0 hz1 hz2
    go_upto_region 9 with (first
      | (go_at_call 41; refine HS1.out.mono ?_; rintro e w6 ⟨A3, o3, rfl, hset3, hrd3, _, k1⟩)
      | (go_at_call 37; refine (sure_any _ _ _ _ _).mono ?_; rintro e w7 ⟨rfl, rfl⟩))
    have MW6 := Lib.hid (MW.out.next k1)
    have VA6 := Lib.hid (VAW.out.next k1)
    have HV6 := Lib.hid (show Boxed w6 g3 30 (.slice A2 mv.length c2) from keep_heap k1 HV3.out)
    have HRD6 := Lib.hid (show S.Rd w6 w6.heap.size A2 mv from (HRD2.out.below k1).more k1.size)
    have HDK6 := Lib.hid (keep_heap k1 HDK.out)
    have hxr : x ≤ (r.take i ++ r.drop (i + n)).length := by rw [hR1l]; omega
    have hs2 := sIns (c := o3.length) hset3 hrd3 (by rw [hR1l]; omega) x hxr (List.replicate n 0) (by rw [hR1l, List.length_replicate]; omega)
    have hgap := fun j => ins_gap hset3 hxr (List.replicate n 0) j
    rw [List.length_replicate] at hs2
    simp only [List.length_replicate] at hgap
    have HS2 := Lib.hid hs2
    have HSET3 := Lib.hid hset3
    have HGAP := Lib.hid hgap
    obtain ⟨y0, y1⟩ := MW6.out.c
    clear hs2 hset3 hrd3 hgap k1 MW VAW HV3 HRD2 HDK HS1 x0 x1 x2 x3 x4
    go_upto_region 10 with (first
      | (go_at_call 38; refine HS2.out.mono ?_; rintro e w8 ⟨A4, o4, rfl, hset4, hrd4, hfr4, k1⟩)
      | (go_at_call 37; refine (sure_any _ _ _ _ _).mono ?_; rintro e w9 ⟨rfl, rfl⟩))
    have VB := Lib.hid (show Vb w w8 (w.heap.size + 1 + 1 + 1) g2 g3 D #[.int .i64 t.count, .int .i64 t.total, .int .i64 t.depth, .pointer p, .slice A xs.length c] t2 p2 A2 c2 mv A4 o4 from
      ⟨VA6.out.next k1, keep_heap k1 HV6.out, (HRD6.out.below k1).more k1.size, hrd4, keep_heap k1 HDK6.out, HF2.out, far_new hfr4 VA6.out.lt, by omega, hD3⟩)
    have HU := Lib.hid (show ∀ U, S.Rd U U.heap.size A4 o4 → S.Rd U U.heap.size A2 mv → Calls Try.prog 44 #[.slice A4 o4.length o4.length, .slice A2 mv.length c2] U (SetE R U) from fun U g1 g2 =>
      sUni hset4 g1 g2 (by simp; omega) HMC.out (Nat.le_refl _) hc2 HVR.out.len (fun j => by
        rw [← HR.out]
        exact mov_kn HSET3.out hp hxr (fun j => (hset4.has j).trans (HGAP.out j).symm) HMH.out j))
    clear hset4 hrd4 hfr4 k1 VA6 HV6 HRD6 HDK6 HS2 HSET3 HGAP MW6 HMC HMH HF2 HR HIX y0 y1
    obtain ⟨P, hP⟩ : ∃ P : World → Prop, (fun U => Vb w U (w.heap.size + 1 + 1 + 1) g2 g3 D #[.int .i64 t.count, .int .i64 t.total, .int .i64 t.depth, .pointer p, .slice A xs.length c] t2 p2 A2 c2 mv A4 o4) = P := ⟨_, rfl⟩
    have hP0 : P w8 := by rw [← hP]; exact VB.out
    have PC := Lib.hid (show ∀ U, P U → (P U ∧ U.cell? ⟨g2, 0, none⟩ = some (.int .i64 t2.count) ∧ U.cell? ⟨g2, 1, none⟩ = some (.int .i64 t2.total) ∧ U.cell? ⟨g2, 2, none⟩ = some (.int .i64 t2.depth) ∧ U.cell? ⟨g2, 3, none⟩ = some (.pointer p2) ∧ U.cell? ⟨g3, 0, none⟩ = some (.slice A2 mv.length c2)) from fun U h => by
      have h' := h
      rw [← hP] at h'
      exact ⟨h, (rc_cells h'.va.var).1, (rc_cells h'.va.var).2.1, (rc_cells h'.va.var).2.2.1, (rc_cells h'.va.var).2.2.2, h'.bx3.cell⟩)
    have PN := Lib.hid (show ∀ U U', P U → Below U.heap.size U U' → P U' from fun U U' h kk => by
      rw [← hP] at h ⊢
      exact h.next kk)
    have PS := Lib.hid (show ∀ U a0 a1 a2 a3 a4, P U → P (((((U.setCell ⟨w.heap.size + 1 + 1 + 1, 0, none⟩ a0).setCell ⟨w.heap.size + 1 + 1 + 1, 1, none⟩ a1).setCell ⟨w.heap.size + 1 + 1 + 1, 2, none⟩ a2).setCell ⟨w.heap.size + 1 + 1 + 1, 3, none⟩ a3).setCell ⟨w.heap.size + 1 + 1 + 1, 4, none⟩ a4) from fun U a0 a1 a2 a3 a4 h => by
      rw [← hP] at h ⊢
      exact h.set5 _ _ _ _ _)
    have PV := Lib.hid (show ∀ U, P U → Vb w U (w.heap.size + 1 + 1 + 1) g2 g3 D #[.int .i64 t.count, .int .i64 t.total, .int .i64 t.depth, .pointer p, .slice A xs.length c] t2 p2 A2 c2 mv A4 o4 from fun U h => by
      rw [← hP] at h
      exact h)
    have HP0 := Lib.hid (PN.out _ _ hP0 (drew_below w8))
    clear hP hP0 VB
    go_region_held3 (fun U => P U ∧ U.cell? ⟨g2, 0, none⟩ = some (.int .i64 t2.count) ∧ U.cell? ⟨g2, 1, none⟩ = some (.int .i64 t2.total) ∧ U.cell? ⟨g2, 2, none⟩ = some (.int .i64 t2.depth) ∧ U.cell? ⟨g2, 3, none⟩ = some (.pointer p2) ∧ U.cell? ⟨g3, 0, none⟩ = some (.slice A2 mv.length c2))
      (first
        | with_reducible exact PC.out _ HP0.out
        | with_reducible exact PC.out _ hp1.out
        | with_reducible exact PC.out _ (PS.out _ _ _ _ _ _ hp1.out)
        | (trace_state; fail))
      (first
        | (go_at_call 44; refine (HU.out _ (PV.out _ HP0.out).rd4 (PV.out _ HP0.out).rd2).mono ?_; rintro e w10 ⟨A5, o5, rfl, hset5, hrd5, hfr5, k1⟩; have hp1 := Lib.hid (PN.out _ _ HP0.out k1); have hfar : Hid (Far (w.heap.size + 1 + 1 + 1) A5 o5) := Lib.hid (far_new hfr5 (PV.out _ HP0.out).va.lt); have hall : Hid (∀ g, g < w.heap.size → Far g A5 o5) := Lib.hid (fun g hg => far_new hfr5 (Nat.lt_of_lt_of_le hg (PV.out _ HP0.out).va.u.size)); have hset := Lib.hid hset5; have hrd := Lib.hid hrd5; clear hset5 hrd5 hfr5; obtain ⟨v0, v1, v2, v3, v4, c0, c1, c2, c3, c4, f0, f1, f2, f3, f4⟩ := (PV.out _ hp1.out).va.rm.open_)
        | (go_at_call 37; refine (sure_any _ _ _ _ _).mono ?_; rintro e w11 ⟨rfl, rfl⟩))
    all_goals (
      go_wp2_with fail
      obtain ⟨W', hW', hD', hres, hfin⟩ := (PV.out _ hp1.out).ret HLS.out hset.out hrd.out hfar.out (Nat.le_refl _) HVR.out hDw hall.out
      rw [hW']
      refine ⟨by simp, .inl ⟨_, _, rfl, run_takeDeferred hD', ?_⟩⟩
      exact ⟨_, res_ix_err (t := 8) (u := 9) rfl (g := w.heap.size + 1 + 1 + 1) rfl hres, hfin⟩)
  case stop =>
    rintro D c pre W _ _ h _
    exact h.elim
theorem mv_any {w : World} {r : List (Int × Bool)} {t : T} {p A : Option Addr} {c : Nat} {xs : List S.Sp} (h : Ix w r t p A c xs) (i n x : Int) (hi : i ≤ 9223372036854775807) (hx : x ≤ 9223372036854775807) :
    Calls Try.prog 24 #[.agg #[.int .i64 t.count, .int .i64 t.total, .int .i64 t.depth, .pointer p, .slice A xs.length c], .int .i64 i, .int .i64 n, .int .i64 x] w (IxE (movI r i n x) w) := by
  rcases partE_two r.length i n with hp | hp
  · obtain ⟨a, m, rfl, rfl, ham⟩ := part_nat hp
    rcases partE_two (r.length - (m : Int).toNat) x 0 with hq | hq
    · obtain ⟨b, m0, rfl, hm0, hbm⟩ := part_nat hq
      have hbm' : b + m ≤ r.length := by simp at hbm; omega
      have := mv_ok h a m b ham hbm'
      unfold movI
      rw [if_pos hp, if_pos hq]
      exact this
    · have hE : movI r a m x = ([], 4) := by unfold movI; rw [if_pos hp, if_neg (by rw [hq]; decide)]
      rw [hE]
      exact mv_bad h a m x hi hx hE
  · have hE : movI r i n x = ([], 4) := by unfold movI; rw [if_neg (by rw [hp]; decide)]
    rw [hE]
    exact mv_bad h i n x hi hx hE
end Go.Proofs.Ytdejdnkkbpmmlaa
