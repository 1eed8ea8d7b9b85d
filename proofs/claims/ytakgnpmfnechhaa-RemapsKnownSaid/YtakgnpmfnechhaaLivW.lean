/- The law's lives: the chapter's examples hold. -/
import Derived.Test.YtakgnpmfnechhaaMksW
import Derived.Test.YtakgnpmfnechhaaCmpW
import Derived.Test.YtakgnpmfnechhaaGonW
import Derived.Test.YtakgnpmfnechhaaCasW
import Derived.Test.YtakgnpmfnechhaaSamW
namespace Go.Proofs.Ytakgnpmfnechhaa
open Go.RowKit

theorem map_at {o f : Int} {l : List Int} {n : Nat} {w : World} {e : Ending} {w' : World} (h : MapE ((o, l), f) w e w') (hn : l.length = n) : ∃ A, e = .returned (.tuple #[.agg #[.int .i64 o, .slice A n n], .int .i64 f]) ∧ SlI w' A n l ∧ Far w A ∧ Below w.heap.size w w' := mapE_at h hn
theorem rowX_at {l : List Int} {f : Int} {n : Nat} {w : World} {e : Ending} {w' : World} (h : RowX (l, f) w e w') (hn : l.length = n) : ∃ A, e = .returned (.tuple #[.slice A n n, .int .i64 f]) ∧ SlI w' A n l ∧ Below w.heap.size w w' := by
  subst hn; exact h
theorem lit_sl (W : World) (zs : List Int) {cs : Array Value} (h : (iv zs).toArray = cs) (hl : zs.length ≤ 9223372036854775807) : SlI (W.alloc (.cells cs 3)) (some ⟨W.heap.size, 0, none⟩) zs.length zs := by
  subst h
  exact (RI.lit W zs).sl hl
theorem sam (W : World) (o : Int) (zs : List Int) {A : Option Addr} {cs : Array Value} (h : (iv zs).toArray = cs) (hs : SlI W A zs.length zs) :
    Calls Try.prog 18 #[.agg #[.int .i64 o, .slice A zs.length zs.length], .int .i64 0, .int .i64 o, .slice (some ⟨W.heap.size, 0, none⟩) zs.length zs.length, .int .i64 0] (W.alloc (.cells cs 3)) fun e w' => e = .returned (.bool true) ∧ Below W.heap.size W w' :=
  (same_any o 0 zs.length (hs.next (below_new W _)).rd (lit_sl W zs h hs.len).rd hs.len).mono fun _ _ h => ⟨h.1, (below_new W _).trans (h.2.mono (by simp))⟩
theorem lis (W : World) (zs : List Int) {A : Option Addr} {cs : Array Value} (h : (iv zs).toArray = cs) (hs : SlI W A zs.length zs) :
    Calls Try.prog 19 #[.slice A zs.length zs.length, .int .i64 0, .slice (some ⟨W.heap.size, 0, none⟩) zs.length zs.length, .int .i64 0] (W.alloc (.cells cs 3)) fun e w' => e = .returned (.bool true) ∧ Below W.heap.size W w' :=
  (list_any zs.length (hs.next (below_new W _)).rd (lit_sl W zs h hs.len).rd hs.len).mono fun _ _ h => yesD_b h (below_new W _)
theorem ex1 (W : World) : Calls Try.prog 22 #[.int .i64 3, .int .i64 1, .int .i64 2] W (MapE ((3, [0, -1, -1, 1, 2]), 0) W) := by
  have h := mkIns_any W 3 1 2
  rwa [show insM 3 1 2 = ((3, [0, -1, -1, 1, 2]), 0) by decide] at h
theorem ex2 (W : World) : Calls Try.prog 23 #[.int .i64 4, .int .i64 1, .int .i64 2] W (MapE ((4, [0, 3]), 0) W) := by
  have h := mkRem_any W 4 1 2 (by unfold I64; omega) (by unfold I64; omega)
  rwa [show remM 4 1 2 = ((4, [0, 3]), 0) by decide] at h
theorem ex3 (W : World) : Calls Try.prog 24 #[.int .i64 4, .int .i64 0, .int .i64 1, .int .i64 2] W (MapE ((4, [1, 2, 0, 3]), 0) W) := by
  have h := mkMov_any W 4 0 1 2 (by unfold I64; omega) (by unfold I64; omega)
  rwa [show movM 4 0 1 2 = ((4, [1, 2, 0, 3]), 0) by decide] at h
theorem ex4 (W : World) : Calls Try.prog 23 #[.int .i64 5, .int .i64 0, .int .i64 2] W (MapE ((5, [2, 3, 4]), 0) W) := by
  have h := mkRem_any W 5 0 2 (by unfold I64; omega) (by unfold I64; omega)
  rwa [show remM 5 0 2 = ((5, [2, 3, 4]), 0) by decide] at h
theorem ex5 {W : World} {A B : Option Addr} (ha : SlI W A 5 [0, -1, -1, 1, 2]) (hb : SlI W B 3 [2, 3, 4]) : Calls Try.prog 12 #[.agg #[.int .i64 3, .slice A 5 5], .agg #[.int .i64 5, .slice B 3 3]] W (MapE ((3, [-1, 1, 2]), 0) W) := by
  have h := compose_any 3 5 ha hb
  rwa [show cmpM 3 [0, -1, -1, 1, 2] 5 [2, 3, 4] = ((3, [-1, 1, 2]), 0) by decide] at h
theorem ex6 {W : World} {A : Option Addr} (ha : SlI W A 2 [0, 3]) : Calls Try.prog 13 #[.agg #[.int .i64 4, .slice A 2 2]] W (MapE ((2, [0, -1, -1, 1]), 0) W) := by
  have h := invert_any 4 ha
  rwa [show invM 4 [0, 3] = ((2, [0, -1, -1, 1]), 0) by decide] at h
theorem ex7 {W : World} {A : Option Addr} (ha : SlI W A 2 [0, 3]) : Calls Try.prog 14 #[.agg #[.int .i64 4, .slice A 2 2], .int .i64 3] W (Num2 (1, 0) W) := by
  have h := at_map 4 ha 3
  rwa [show atM 4 [0, 3] 3 = (1, 0) by decide] at h
theorem ex8 {W : World} {A : Option Addr} (ha : SlI W A 2 [0, 3]) : Calls Try.prog 14 #[.agg #[.int .i64 4, .slice A 2 2], .int .i64 1] W (Num2 (0, 11) W) := by
  have h := at_map 4 ha 1
  rwa [show atM 4 [0, 3] 1 = (0, 11) by decide] at h
theorem ex9 {W : World} {A : Option Addr} (ha : SlI W A 2 [0, 3]) : Calls Try.prog 15 #[.agg #[.int .i64 4, .slice A 2 2]] W (RowX ([1, 2], 0) W) := by
  have h := gone_any 4 ha
  rwa [show gonM 4 [0, 3] = ([1, 2], 0) by decide] at h
/-- three strings -/
def abc : List ByteArray := [⟨#[97]⟩, ⟨#[98]⟩, ⟨#[99]⟩]
def cba : List ByteArray := [⟨#[99]⟩, ⟨#[]⟩, ⟨#[97]⟩]
theorem lit_ss (W : World) : SlS (W.alloc (.cells #[.string ⟨#[97]⟩, .string ⟨#[98]⟩, .string ⟨#[99]⟩] 9)) (some ⟨W.heap.size, 0, none⟩) 3 abc := by
  refine ⟨fun k hk => ⟨W.heap.size, 0, rfl, by simp, ?_⟩, Nat.le_refl _, by omega⟩
  refine (cell_of_row _ _ _ _ 9 (0, 0) (heap_alloc_new W _)).trans ?_
  rw [Nat.zero_add]
  match k, hk with
  | 0, _ => rfl
  | 1, _ => rfl
  | 2, _ => rfl
theorem ex10 {W : World} {A B : Option Addr} (ha : SlI W A 3 [2, -1, 0]) (hb : SlS W B 3 abc) : Calls Try.prog 32 #[.agg #[.int .i64 3, .slice A 3 3], .slice B 3 3] W (RowS (cba, 0) W) := by
  have h := carry_okS (n := 3) ha hb (chkM_zero.1 (by decide)) rfl
  rwa [show carLS [2, -1, 0] abc = cba from rfl] at h
theorem ex12 {W : World} {A : Option Addr} (ha : SlI W A 2 [0, 0]) : Calls Try.prog 16 #[.agg #[.int .i64 2, .slice A 2 2]] W (NumB 8 W) := by
  have h := check_any 2 2 ha.rd ha.len
  rwa [show chkM 2 [0, 0] = 8 by decide] at h
theorem ex13 {W : World} {A : Option Addr} (ha : SlI W A 1 [2]) : Calls Try.prog 16 #[.agg #[.int .i64 2, .slice A 1 1]] W (NumB 4 W) := by
  have h := check_any 2 1 ha.rd ha.len
  rwa [show chkM 2 [2] = 4 by decide] at h
/-- a literal, and a map of it -/
theorem lit_of (W : World) (o : Int) (zs : List Int) {cs : Array Value} (h : (iv zs).toArray = cs) (hl : zs.length ≤ 9223372036854775807) (B : Value) : SlI ((W.alloc (.cells cs 3)).alloc (.cells #[.int .i64 o, B] 24)) (some ⟨W.heap.size, 0, none⟩) zs.length zs ∧ Below W.heap.size W ((W.alloc (.cells cs 3)).alloc (.cells #[.int .i64 o, B] 24)) :=
  ⟨(lit_sl W zs h hl).next (below_new _ _), below2 W _ _⟩
theorem ex11 {W : World} {A B : Option Addr} (ha : SlI W A 1 [0]) (hb : SlI W B 1 [0]) : Calls Try.prog 12 #[.agg #[.int .i64 2, .slice A 1 1], .agg #[.int .i64 2, .slice B 1 1]] W (MapE ((0, []), 16) W) := by
  have h := compose_any 2 2 ha hb
  rwa [show cmpM 2 [0] 2 [0] = ((0, []), 16) by decide] at h
/-- what lives has in memory: three maps -/
structure Lv (w W : World) (g1 g3 g5 : Nat) (A1 A3 A5 : Option Addr) : Prop where
  a : Mv W g1 3 A1 5 [0, -1, -1, 1, 2]
  b : Mv W g3 4 A3 2 [0, 3]
  c : Mv W g5 4 A5 4 [1, 2, 0, 3]
  u : Below w.heap.size w W
theorem Lv.next {w W W' : World} {g1 g3 g5 : Nat} {A1 A3 A5 : Option Addr} (h : Lv w W g1 g3 g5 A1 A3 A5) (hb : Below W.heap.size W W') : Lv w W' g1 g3 g5 A1 A3 A5 :=
  ⟨h.a.next hb, h.b.next hb, h.c.next hb, h.u.trans (hb.mono h.u.size)⟩
/-- and two more, and a row -/
structure Lw (w W : World) (g3 g7 g8 : Nat) (A3 A7 A8 A9 : Option Addr) (l8 l9 : List Int) (n8 n9 : Nat) : Prop where
  b : Mv W g3 4 A3 2 [0, 3]
  d : Mv W g7 3 A7 3 [-1, 1, 2]
  i : Mv W g8 2 A8 n8 l8
  k : SlI W A9 n9 l9
  u : Below w.heap.size w W
theorem Lw.next {w W W' : World} {g3 g7 g8 : Nat} {A3 A7 A8 A9 : Option Addr} {l8 l9 : List Int} {n8 n9 : Nat} (h : Lw w W g3 g7 g8 A3 A7 A8 A9 l8 l9 n8 n9) (hb : Below W.heap.size W W') : Lw w W' g3 g7 g8 A3 A7 A8 A9 l8 l9 n8 n9 :=
  ⟨h.b.next hb, h.d.next hb, h.i.next hb, h.k.next hb, h.u.trans (hb.mono h.u.size)⟩
set_option maxRecDepth 100000 in
set_option maxHeartbeats 8000000 in
theorem lives_any (w : World) : Calls Try.prog 9 #[] w (YesB w) := by
  go_enter Try.func9, Try.ntmps9
  go_wp2_with fail
  refine (ex1 _).mono ?_
  intro e w1 h
  obtain ⟨A1, rfl, hs, hf, hb⟩ := map_at h (n := 5) rfl
  have M1 := Lib.hid (show Mv (w1.alloc (.cells #[.int .i64 3, .slice A1 5 5] 24)) w1.heap.size 3 A1 5 [0, -1, -1, 1, 2] from Mv.new hs)
  have HU := Lib.hid (hb.trans ((below_new w1 (.cells #[.int .i64 3, .slice A1 5 5] 24)).mono hb.size))
  obtain ⟨g1, e1⟩ : ∃ g : Nat, w1.heap.size = g := ⟨_, rfl⟩
  obtain ⟨V1, v1⟩ : ∃ V : World, w1.alloc (.cells #[.int .i64 3, .slice A1 5 5] 24) = V := ⟨_, rfl⟩
  rw [e1, v1] at M1
  rw [v1] at HU
  clear h hs hf hb
  go_wp2_with fail
  clear e1 v1
  refine (ex2 _).mono ?_
  intro e w2 h
  obtain ⟨A3, rfl, hs, hf, hb⟩ := map_at h (n := 2) rfl
  have M2 := Lib.hid (show Mv (w2.alloc (.cells #[.int .i64 4, .slice A3 2 2] 24)) w2.heap.size 4 A3 2 [0, 3] from Mv.new hs)
  have hbb := hb.trans ((below_new w2 (.cells #[.int .i64 4, .slice A3 2 2] 24)).mono hb.size)
  replace M1 := Lib.hid (M1.out.next hbb)
  replace HU := Lib.hid (HU.out.trans (hbb.mono HU.out.size))
  obtain ⟨g3, e3⟩ : ∃ g : Nat, w2.heap.size = g := ⟨_, rfl⟩
  obtain ⟨V2, v2⟩ : ∃ V : World, w2.alloc (.cells #[.int .i64 4, .slice A3 2 2] 24) = V := ⟨_, rfl⟩
  rw [e3, v2] at M2
  rw [v2] at M1 HU
  clear h hs hf hb hbb
  go_wp2_with fail
  clear e3 v2
  refine (ex3 _).mono ?_
  intro e w3 h
  obtain ⟨A5, rfl, hs, hf, hb⟩ := map_at h (n := 4) rfl
  have hbb := hb.trans ((below_new w3 (.cells #[.int .i64 4, .slice A5 4 4] 24)).mono hb.size)
  have M := Lib.hid (show Lv w (w3.alloc (.cells #[.int .i64 4, .slice A5 4 4] 24)) g1 g3 w3.heap.size A1 A3 A5 from ⟨M1.out.next hbb, M2.out.next hbb, Mv.new hs, HU.out.trans (hbb.mono HU.out.size)⟩)
  obtain ⟨g5, e5⟩ : ∃ g : Nat, w3.heap.size = g := ⟨_, rfl⟩
  obtain ⟨V3, v3⟩ : ∃ V : World, w3.alloc (.cells #[.int .i64 4, .slice A5 4 4] 24) = V := ⟨_, rfl⟩
  rw [e5, v3] at M
  obtain ⟨x0, x1⟩ := M.out.a.cells
  clear h hs hf hb hbb M1 M2 HU
  go_wp2_with fail
  clear e5 v3 x0 x1
  refine (sam V3 3 [0, -1, -1, 1, 2] rfl M.out.a.sl).mono ?_
  rintro e w4 ⟨rfl, hb⟩
  replace M := Lib.hid (M.out.next hb)
  obtain ⟨x0, x1⟩ := M.out.b.cells
  clear hb
  go_wp2_with fail
  clear x0 x1
  refine (sam w4 4 [0, 3] rfl M.out.b.sl).mono ?_
  rintro e w5 ⟨rfl, hb⟩
  replace M := Lib.hid (M.out.next hb)
  obtain ⟨x0, x1⟩ := M.out.c.cells
  clear hb
  go_wp2_with fail
  clear x0 x1
  refine (sam w5 4 [1, 2, 0, 3] rfl M.out.c.sl).mono ?_
  rintro e w6 ⟨rfl, hb⟩
  replace M := Lib.hid (M.out.next hb)
  clear hb
  go_wp2_with fail
  refine (ex4 _).mono ?_
  intro e w7 h
  obtain ⟨A7, rfl, hs, hf, hb⟩ := map_at h (n := 3) rfl
  replace M := Lib.hid (M.out.next hb)
  have hbn := below_new w7 (.cells #[.int .i64 5, .slice A7 3 3] 24)
  have MD := Lib.hid (show Mv (w7.alloc (.cells #[.int .i64 5, .slice A7 3 3] 24)) w7.heap.size 5 A7 3 [2, 3, 4] from Mv.new hs)
  have M7 := Lib.hid (M.out.next hbn)
  have HB7 := Lib.hid (show _ ∧ w7.heap.size < (w7.alloc (.cells #[.int .i64 5, .slice A7 3 3] 24)).heap.size from ⟨hbn, by simp⟩)
  obtain ⟨g7, e7⟩ : ∃ g : Nat, w7.heap.size = g := ⟨_, rfl⟩
  obtain ⟨V7, v7⟩ : ∃ V : World, w7.alloc (.cells #[.int .i64 5, .slice A7 3 3] 24) = V := ⟨_, rfl⟩
  rw [e7, v7] at MD
  rw [v7] at M7 HB7
  rw [e7] at HB7
  have HE7 := Lib.hid e7
  obtain ⟨x0, x1⟩ := M7.out.a.cells
  obtain ⟨y0, y1⟩ := MD.out.cells
  clear h hs hf hb hbn
  go_wp2_with fail
  clear e7 v7 x0 x1 y0 y1
  refine (ex5 M7.out.a.sl MD.out.sl).mono ?_
  intro e w8 h
  obtain ⟨A8, rfl, hs, hf, hb⟩ := map_at h (n := 3) rfl
  have hR3 : Room w8 g7 := ⟨_, _, keep_heap hb MD.out.box⟩
  have hub : Below w7.heap.size w7 ((w8.setCell ⟨g7, 0, none⟩ (.int .i64 3)).setCell ⟨g7, 1, none⟩ (.slice A8 3 3)) := by rw [HE7.out]; exact below_set2 (HB7.out.1.trans (hb.mono (by have h1 := HB7.out.1.size; have h2 := HE7.out; omega))) (Nat.le_refl _)
  have N := M.out.next hub
  have hd : Mv ((w8.setCell ⟨g7, 0, none⟩ (.int .i64 3)).setCell ⟨g7, 1, none⟩ (.slice A8 3 3)) g7 3 A8 3 [-1, 1, 2] := ⟨heap_set2 hR3, sl_set2 hs (fun p e => Nat.lt_of_lt_of_le HB7.out.2 (hf p e))⟩
  obtain ⟨u', v', c0, c1, f0, f1⟩ := hR3.open_
  have HN := Lib.hid N
  have HD := Lib.hid hd
  obtain ⟨V8, v8⟩ : ∃ V : World, (w8.setCell ⟨g7, 0, none⟩ (.int .i64 3)).setCell ⟨g7, 1, none⟩ (.slice A8 3 3) = V := ⟨_, rfl⟩
  rw [v8] at HN HD
  obtain ⟨x0, x1⟩ := HN.out.b.cells
  clear h hs hf hb hR3 hub N hd M M7 MD HB7 HE7
  go_wp2_with fail
  clear v8 x0 x1 c0 c1 f0 f1
  refine (ex6 HN.out.b.sl).mono ?_
  intro e w9 h
  obtain ⟨A9, rfl, hs, hf, hb⟩ := map_at h (n := 4) rfl
  have hbb := hb.trans ((below_new w9 (.cells #[.int .i64 2, .slice A9 4 4] 24)).mono hb.size)
  have N := HN.out.next hbb
  have M := Lib.hid (show Lw w (w9.alloc (.cells #[.int .i64 2, .slice A9 4 4] 24)) g3 g7 w9.heap.size A3 A8 A9 none [0, -1, -1, 1] [] 4 0 from ⟨N.b, HD.out.next hbb, Mv.new hs, SlI.none _, N.u⟩)
  obtain ⟨g8, e8⟩ : ∃ g : Nat, w9.heap.size = g := ⟨_, rfl⟩
  obtain ⟨V9, v9⟩ : ∃ V : World, w9.alloc (.cells #[.int .i64 2, .slice A9 4 4] 24) = V := ⟨_, rfl⟩
  rw [e8, v9] at M
  obtain ⟨x0, x1⟩ := M.out.b.cells
  clear h hs hf hb hbb HN HD N
  go_wp2_with fail
  clear e8 v9 x0 x1
  refine (ex7 M.out.b.sl).mono ?_
  rintro e w10 ⟨rfl, hb⟩
  replace M := Lib.hid (M.out.next hb)
  obtain ⟨x0, x1⟩ := M.out.b.cells
  clear hb
  go_wp2_with fail
  clear x0 x1
  refine (ex8 M.out.b.sl).mono ?_
  rintro e w11 ⟨rfl, hb⟩
  replace M := Lib.hid (M.out.next hb)
  obtain ⟨x0, x1⟩ := M.out.b.cells
  clear hb
  go_wp2_with fail
  clear x0 x1
  refine (ex9 M.out.b.sl).mono ?_
  intro e w12 h
  obtain ⟨A12, rfl, hs, hb⟩ := rowX_at h (n := 2) rfl
  have N := M.out.next hb
  replace M := Lib.hid (show Lw w w12 g3 g7 g8 A3 A8 A9 A12 [0, -1, -1, 1] [1, 2] 4 2 from ⟨N.b, N.d, N.i, hs, N.u⟩)
  obtain ⟨x0, x1⟩ := M.out.d.cells
  clear h hs hb N
  go_wp2_with fail
  clear x0 x1
  refine (sam w12 3 [-1, 1, 2] rfl M.out.d.sl).mono ?_
  rintro e w13 ⟨rfl, hb⟩
  replace M := Lib.hid (M.out.next hb)
  obtain ⟨x0, x1⟩ := M.out.i.cells
  clear hb
  go_wp2_with fail
  clear x0 x1
  refine (sam w13 2 [0, -1, -1, 1] rfl M.out.i.sl).mono ?_
  rintro e w14 ⟨rfl, hb⟩
  replace M := Lib.hid (M.out.next hb)
  clear hb
  go_wp2_with fail
  refine (lis w14 [1, 2] rfl M.out.k).mono ?_
  rintro e w15 ⟨rfl, hb⟩
  have HU := Lib.hid (M.out.next hb).u
  clear hb M
  go_wp2_with fail
  refine (of_any _ _ _ _ _).mono ?_
  rintro e w16 ⟨rfl, rfl⟩
  obtain ⟨h1, hb1⟩ := lit_of w15 3 [2, -1, 0] rfl (by decide) (.slice (some ⟨w15.heap.size, 0, none⟩) 3 3)
  obtain ⟨V16, v16⟩ : ∃ V : World, (w15.alloc (.cells #[.int .i64 2, .int .i64 (-1), .int .i64 0] 3)).alloc (.cells #[.int .i64 3, .slice (some ⟨w15.heap.size, 0, none⟩) 3 3] 24) = V := ⟨_, rfl⟩
  have H1 : Hid (SlI V16 (some ⟨w15.heap.size, 0, none⟩) 3 [2, -1, 0] ∧ Below w15.heap.size w15 V16) := Lib.hid (by rw [← v16]; exact ⟨h1, hb1⟩)
  clear h1 hb1
  rw [v16]
  clear v16
  go_wp2_with fail
  refine (ex10 (H1.out.1.next (below_new V16 _)) (lit_ss V16)).mono ?_
  rintro e w17 ⟨A17, rfl, hs, hb⟩
  have HU17 := Lib.hid (HU.out.trans (((H1.out.2.trans ((below_new V16 _).mono H1.out.2.size)).trans (hb.mono ((H1.out.2.trans ((below_new V16 _).mono H1.out.2.size)).size))).mono HU.out.size))
  have HS : Hid (SlS w17 A17 3 cba) := Lib.hid hs
  clear hs hb H1 HU
  go_wp2_with fail
  refine (of_any _ _ _ _ _).mono ?_
  rintro e w18 ⟨rfl, rfl⟩
  obtain ⟨h1, hb1⟩ := lit_of w17 2 [0] rfl (by decide) (.slice (some ⟨w17.heap.size, 0, none⟩) 1 1)
  obtain ⟨V18, v18⟩ : ∃ V : World, (w17.alloc (.cells #[.int .i64 0] 3)).alloc (.cells #[.int .i64 2, .slice (some ⟨w17.heap.size, 0, none⟩) 1 1] 24) = V := ⟨_, rfl⟩
  have H1 : Hid (SlI V18 (some ⟨w17.heap.size, 0, none⟩) 1 [0] ∧ Below w17.heap.size w17 V18) := Lib.hid (by rw [← v18]; exact ⟨h1, hb1⟩)
  clear h1 hb1
  rw [v18]
  clear v18
  go_wp2_with fail
  refine (of_any _ _ _ _ _).mono ?_
  rintro e w19 ⟨rfl, rfl⟩
  obtain ⟨h1, hb1⟩ := lit_of V18 2 [0] rfl (by decide) (.slice (some ⟨V18.heap.size, 0, none⟩) 1 1)
  obtain ⟨V19, v19⟩ : ∃ V : World, (V18.alloc (.cells #[.int .i64 0] 3)).alloc (.cells #[.int .i64 2, .slice (some ⟨V18.heap.size, 0, none⟩) 1 1] 24) = V := ⟨_, rfl⟩
  have H2 : Hid (SlI V19 (some ⟨V18.heap.size, 0, none⟩) 1 [0] ∧ Below V18.heap.size V18 V19) := Lib.hid (by rw [← v19]; exact ⟨h1, hb1⟩)
  clear h1 hb1
  rw [v19]
  clear v19
  go_wp2_with fail
  refine (ex11 (H1.out.1.next H2.out.2) H2.out.1).mono ?_
  intro e w20 h
  obtain ⟨A20, rfl, _, _, hb⟩ := map_at h (n := 0) rfl
  have hub := (H1.out.2.trans ((H2.out.2.trans (hb.mono H2.out.2.size)).mono H1.out.2.size))
  have hbn := hub.trans ((below_new w20 (.cells #[.int .i64 0, .slice A20 0 0] 24)).mono hub.size)
  have HU20 := Lib.hid (HU17.out.trans (hbn.mono HU17.out.size))
  have hss := HS.out.rd.below hbn
  obtain ⟨b, o, e0, hlt, s0⟩ := hss 0 (by decide)
  obtain ⟨b1, o1, e1, _, s1⟩ := hss 1 (by decide)
  obtain ⟨b2, o2, e2, _, s2⟩ := hss 2 (by decide)
  subst e0
  injection e1 with e1
  injection e2 with e2
  injection e1 with e3 e4
  injection e2 with e5 e6
  subst e3; subst e4; subst e5; subst e6
  rw [show cba[0] = (⟨#[99]⟩ : ByteArray) from rfl] at s0
  rw [show cba[1] = (⟨#[]⟩ : ByteArray) from rfl] at s1
  rw [show cba[2] = (⟨#[97]⟩ : ByteArray) from rfl] at s2
  obtain ⟨V20, v20⟩ : ∃ V : World, w20.alloc (.cells #[.int .i64 0, .slice A20 0 0] 24) = V := ⟨_, rfl⟩
  rw [v20] at s0 s1 s2 HU20
  rw [Nat.add_zero] at s0
  clear h hb hub hbn hss H1 H2 HU17 HS hlt
  go_wp2_with fail
  clear s0 s1 s2 v20
  refine (of_any _ _ _ _ _).mono ?_
  rintro e w21 ⟨rfl, rfl⟩
  obtain ⟨h1, hb1⟩ := lit_of V20 2 [0, 0] rfl (by decide) (.slice (some ⟨V20.heap.size, 0, none⟩) 2 2)
  have K := Lib.hid (ex12 h1)
  have HB := Lib.hid hb1
  clear h1 hb1
  go_wp2_with fail
  refine K.out.mono ?_
  rintro e w22 ⟨rfl, hb⟩
  have HU22 := Lib.hid (HU20.out.trans ((HB.out.trans (hb.mono HB.out.size)).mono HU20.out.size))
  clear K HB hb HU20
  go_wp2_with fail
  refine (of_any _ _ _ _ _).mono ?_
  rintro e w23 ⟨rfl, rfl⟩
  obtain ⟨h1, hb1⟩ := lit_of w22 2 [2] rfl (by decide) (.slice (some ⟨w22.heap.size, 0, none⟩) 1 1)
  have K := Lib.hid (ex13 h1)
  have HB := Lib.hid hb1
  clear h1 hb1
  go_wp2_with fail
  refine K.out.mono ?_
  rintro e w24 ⟨rfl, hb⟩
  have HU24 := Lib.hid (HU22.out.trans ((HB.out.trans (hb.mono HB.out.size)).mono HU22.out.size))
  clear K HB hb HU22
  go_wp2_with fail
  go_ret
  exact ⟨rfl, HU24.out⟩
end Go.Proofs.Ytakgnpmfnechhaa
