/- An index in memory; Top, Size, At; New; sure. -/
import Derived.Test.YtdejdnkkbpmmlaaMSzA
import Derived.Test.YtdejdnkkbpmmlaaMSOpsW
namespace Go.Proofs.Ytdejdnkkbpmmlaa
open Go.RowKit

theorem below_new (W : World) (o : Obj) : Below W.heap.size W (W.alloc o) := (Below.refl W.heap.size W).alloc (Nat.le_refl _) o
/-- rows that an index may have -/
structure Vr (r : List (Int × Bool)) : Prop where
  vd : Vd (sz r)
  len : r.length ≤ 1024
  pos : ∀ x ∈ sz r, 1 ≤ x
theorem sz_len (r : List (Int × Bool)) : (sz r).length = r.length := by simp [sz]
/-- an index: the tree of its sizes, and the spans of its known rows -/
structure Ix (W : World) (r : List (Int × Bool)) (t : T) (p A : Option Addr) (c : Nat) (xs : List S.Sp) : Prop where
  nd : Nd W t p
  ls : Ls (sz r) t
  rd : S.Rd W W.heap.size A xs
  set : IsSet r xs
  cap : xs.length ≤ c
  vr : Vr r
theorem Ix.next {W W' : World} {r : List (Int × Bool)} {t : T} {p A : Option Addr} {c : Nat} {xs : List S.Sp} (h : Ix W r t p A c xs) (kk : Below W.heap.size W W') : Ix W' r t p A c xs :=
  ⟨h.nd.below kk, h.ls, (h.rd.below kk).more kk.size, h.set, h.cap, h.vr⟩
theorem Ix.ok {W : World} {r : List (Int × Bool)} {t : T} {p A : Option Addr} {c : Nat} {xs : List S.Sp} (h : Ix W r t p A c xs) : Ok t.list := by rw [h.ls.list]; exact h.vr.vd.ok
theorem Ix.cnt {W : World} {r : List (Int × Bool)} {t : T} {p A : Option Addr} {c : Nat} {xs : List S.Sp} (h : Ix W r t p A c xs) : t.count = r.length := by rw [← T.len, h.ls.list, sz_len]
theorem Ix.tot {W : World} {r : List (Int × Bool)} {t : T} {p A : Option Addr} {c : Nat} {xs : List S.Sp} (h : Ix W r t p A c xs) : t.total = (sz r).sum := by rw [← T.sum, h.ls.list]
theorem vd_none : Vd [] := chk_zero.1 (by decide)
theorem Ix.none (W : World) : Ix W [] .nil none none 0 [] := ⟨rfl, ⟨rfl, trivial⟩, S.Rd.nil, IsSet.nil, Nat.le_refl _, ⟨vd_none, by simp, by simp [sz]⟩⟩
/-- a list of spans does not lie in block g -/
def Far (g : Nat) (A : Option Addr) (xs : List S.Sp) : Prop := xs ≠ [] → ∀ a, A = some a → a.block ≠ g
/-- an index and an error are returned -/
def IxE (R : List (Int × Bool) × Int) (w : World) (e : Ending) (w' : World) : Prop :=
  ∃ (t : T) (p A : Option Addr) (c : Nat) (xs : List S.Sp), e = .returned (.tuple #[.agg #[.int .i64 t.count, .int .i64 t.total, .int .i64 t.depth, .pointer p, .slice A xs.length c], .int .i64 R.2]) ∧ Ix w' R.1 t p A c xs ∧ Below w.heap.size w w' ∧ ∀ g, g < w.heap.size → Far g A xs
theorem box5 {W : World} {g : Nat} {a0 a1 a2 a3 a4 : Value} (h : W.heap[g]? = some (.cells #[a0, a1, a2, a3, a4] 32 (0, 0))) :
    W.cell? ⟨g, 0, none⟩ = some a0 ∧ W.cell? ⟨g, 1, none⟩ = some a1 ∧ W.cell? ⟨g, 2, none⟩ = some a2 ∧ W.cell? ⟨g, 3, none⟩ = some a3 ∧ W.cell? ⟨g, 4, none⟩ = some a4 :=
  ⟨cell_of_row W g 0 _ 32 (0, 0) h, cell_of_row W g 1 _ 32 (0, 0) h, cell_of_row W g 2 _ 32 (0, 0) h, cell_of_row W g 3 _ 32 (0, 0) h, cell_of_row W g 4 _ 32 (0, 0) h⟩
theorem size32 : (Try.prog.info? 32).map (·.size) = some 5 := by kernel_rfl
set_option maxRecDepth 100000 in
theorem load32 {W : World} {g : Nat} {a0 a1 a2 a3 a4 : Value} (hh : W.heap[g]? = some (.cells #[a0, a1, a2, a3, a4] 32 (0, 0))) : (loadVar 32 ⟨g, 0, none⟩).run Try.prog W = .ok (.agg #[a0, a1, a2, a3, a4]) W :=
  run_loadVar_row W g 32 32 _ (0, 0) _ hh Try.underlying32 rfl size32
/-- an index that lies in the cell of the result -/
theorem res_ix {fn : Func} {t : Tmp} (h : fn.results = #[.cell t 32]) {tmps : Array Value} {W : World} {g : Nat} {a0 a1 a2 a3 a4 : Value} (ht : tmps.getD t undef = .pointer (some ⟨g, 0, none⟩))
    (hh : W.heap[g]? = some (.cells #[a0, a1, a2, a3, a4] 32 (0, 0))) : (results fn tmps).run Try.prog W = .ok (.agg #[a0, a1, a2, a3, a4]) W := by
  have hp' : tmps[t]?.getD undef = .pointer (some ⟨g, 0, none⟩) := by simpa using ht
  simp [results, h, hp', asAddr, load32 hh]
theorem res_ix_err {fn : Func} {t u : Tmp} (h : fn.results = #[.cell t 32, .tmp u]) {tmps : Array Value} {W : World} {g : Nat} {a0 a1 a2 a3 a4 : Value} (ht : tmps.getD t undef = .pointer (some ⟨g, 0, none⟩))
    (hh : W.heap[g]? = some (.cells #[a0, a1, a2, a3, a4] 32 (0, 0))) : (results fn tmps).run Try.prog W = .ok (.tuple #[.agg #[a0, a1, a2, a3, a4], tmps.getD u undef]) W := by
  have hp' : tmps[t]?.getD undef = .pointer (some ⟨g, 0, none⟩) := by simpa using ht
  simp [results, h, hp', asAddr, load32 hh]
theorem size72 : (Try.prog.info? 72).map (·.size) = some 2 := by kernel_rfl
set_option maxRecDepth 100000 in
theorem load72 {W : World} {g : Nat} {a0 a1 : Value} (hh : W.heap[g]? = some (.cells #[a0, a1] 72 (0, 0))) : (loadVar 72 ⟨g, 0, none⟩).run Try.prog W = .ok (.agg #[a0, a1]) W :=
  run_loadVar_row W g 72 72 _ (0, 0) _ hh Try.underlying72 rfl size72
theorem res_sp {fn : Func} {t u : Tmp} (h : fn.results = #[.cell t 72, .tmp u]) {tmps : Array Value} {W : World} {g : Nat} {a0 a1 : Value} (ht : tmps.getD t undef = .pointer (some ⟨g, 0, none⟩))
    (hh : W.heap[g]? = some (.cells #[a0, a1] 72 (0, 0))) : (results fn tmps).run Try.prog W = .ok (.tuple #[.agg #[a0, a1], tmps.getD u undef]) W := by
  have hp' : tmps[t]?.getD undef = .pointer (some ⟨g, 0, none⟩) := by simpa using ht
  simp [results, h, hp', asAddr, load72 hh]
/-- a variable of five cells -/
def Room5 (W : World) (g : Nat) : Prop := ∃ v0 v1 v2 v3 v4, W.heap[g]? = some (.cells #[v0, v1, v2, v3, v4] 32 (0, 0))
theorem Room5.keep {w0 w1 : World} {g : Nat} (h : Room5 w0 g) (hb : Below w0.heap.size w0 w1) : Room5 w1 g := by
  obtain ⟨v0, v1, v2, v3, v4, h⟩ := h
  exact ⟨v0, v1, v2, v3, v4, keep_heap hb h⟩
theorem Room5.open_ {W : World} {g : Nat} (h : Room5 W g) : ∃ v0 v1 v2 v3 v4, W.cell? ⟨g, 0, none⟩ = some v0 ∧ W.cell? ⟨g, 1, none⟩ = some v1 ∧ W.cell? ⟨g, 2, none⟩ = some v2 ∧ W.cell? ⟨g, 3, none⟩ = some v3 ∧ W.cell? ⟨g, 4, none⟩ = some v4 ∧
    W.frozen? ⟨g, 0, none⟩ = false ∧ W.frozen? ⟨g, 1, none⟩ = false ∧ W.frozen? ⟨g, 2, none⟩ = false ∧ W.frozen? ⟨g, 3, none⟩ = false ∧ W.frozen? ⟨g, 4, none⟩ = false := by
  obtain ⟨v0, v1, v2, v3, v4, h⟩ := h
  exact ⟨v0, v1, v2, v3, v4, (box5 h).1, (box5 h).2.1, (box5 h).2.2.1, (box5 h).2.2.2.1, (box5 h).2.2.2.2, by simp [World.frozen?, h], by simp [World.frozen?, h], by simp [World.frozen?, h], by simp [World.frozen?, h], by simp [World.frozen?, h]⟩
theorem heap_set5 {W : World} {g : Nat} {a0 a1 a2 a3 a4 : Value} (h : Room5 W g) :
    (((((W.setCell ⟨g, 0, none⟩ a0).setCell ⟨g, 1, none⟩ a1).setCell ⟨g, 2, none⟩ a2).setCell ⟨g, 3, none⟩ a3).setCell ⟨g, 4, none⟩ a4).heap[g]? = some (.cells #[a0, a1, a2, a3, a4] 32 (0, 0)) := by
  obtain ⟨v0, v1, v2, v3, v4, h⟩ := h
  simp [World.setCell, Array.getElem?_modify, h]
theorem cell_set5 {W : World} {g : Nat} {a0 a1 a2 a3 a4 : Value} {p : Addr} {v : Value} (hp : p.block ≠ g) (h : W.cell? p = some v) :
    (((((W.setCell ⟨g, 0, none⟩ a0).setCell ⟨g, 1, none⟩ a1).setCell ⟨g, 2, none⟩ a2).setCell ⟨g, 3, none⟩ a3).setCell ⟨g, 4, none⟩ a4).cell? p = some v := by
  rw [World.cell?_setCell_other _ _ _ _ (fun e => hp (by rw [← e])), World.cell?_setCell_other _ _ _ _ (fun e => hp (by rw [← e])), World.cell?_setCell_other _ _ _ _ (fun e => hp (by rw [← e])), World.cell?_setCell_other _ _ _ _ (fun e => hp (by rw [← e])), World.cell?_setCell_other _ _ _ _ (fun e => hp (by rw [← e]))]
  exact h
theorem below_set5 {B : Nat} {w W : World} {g : Nat} {a0 a1 a2 a3 a4 : Value} (h : Below B w W) (hg : B ≤ g) : Below B w (((((W.setCell ⟨g, 0, none⟩ a0).setCell ⟨g, 1, none⟩ a1).setCell ⟨g, 2, none⟩ a2).setCell ⟨g, 3, none⟩ a3).setCell ⟨g, 4, none⟩ a4) :=
  ((((h.setCell hg _).setCell hg _).setCell hg _).setCell hg _).setCell hg _
theorem far_set5 {W : World} {g k : Nat} {a0 a1 a2 a3 a4 : Value} {o : Obj} (hk : k ≠ g) (h : W.heap[k]? = some o) :
    (((((W.setCell ⟨g, 0, none⟩ a0).setCell ⟨g, 1, none⟩ a1).setCell ⟨g, 2, none⟩ a2).setCell ⟨g, 3, none⟩ a3).setCell ⟨g, 4, none⟩ a4).heap[k]? = some o := by
  rw [Below.heap_setCell _ _ _ k hk, Below.heap_setCell _ _ _ k hk, Below.heap_setCell _ _ _ k hk, Below.heap_setCell _ _ _ k hk, Below.heap_setCell _ _ _ k hk]
  exact h
theorem Nd.ne_room5 {W : World} {g : Nat} (hr : Room5 W g) {b : Nat} {cs : Array Value} {fz : Nat × Nat} (hb : W.heap[b]? = some (.cells cs 92 fz)) : b ≠ g := by
  rintro rfl
  obtain ⟨v0, v1, v2, v3, v4, h⟩ := hr
  rw [h] at hb
  cases hb
theorem Nd.set5 {W : World} {g : Nat} {a0 a1 a2 a3 a4 : Value} (hr : Room5 W g) : ∀ {t : T} {p : Option Addr}, Nd W t p → Nd (((((W.setCell ⟨g, 0, none⟩ a0).setCell ⟨g, 1, none⟩ a1).setCell ⟨g, 2, none⟩ a2).setCell ⟨g, 3, none⟩ a3).setCell ⟨g, 4, none⟩ a4) t p
  | .nil, _, h => h
  | .node _ _ _, _, ⟨b, pl, pr, e, h, hl, hr'⟩ => ⟨b, pl, pr, e, far_set5 (Nd.ne_room5 hr h) h, Nd.set5 hr hl, Nd.set5 hr hr'⟩

set_option maxRecDepth 100000 in
theorem sure_any (A : Option Addr) (n c : Nat) (f : Int) (w : World) : Calls Try.prog 37 #[.slice A n c, .int .i64 f] w fun e w' => e = .returned (.slice A n c) ∧ w = w' := by
  go_enter Try.func37, Try.ntmps37
  go_wp2
  go_ret
  exact ⟨rfl, rfl⟩
set_option maxRecDepth 100000 in
set_option maxHeartbeats 1000000 in
theorem top_of {t : T} {p A : Option Addr} {n c : Nat} {i v f : Int} {w : World} (h : ∀ W, Below w.heap.size w W → Calls Try.prog 30 #[.agg #[.int .i64 t.count, .int .i64 t.total, .int .i64 t.depth, .pointer p], .int .i64 i] W fun e w' => e = .returned (.tuple #[.int .i64 v, .int .i64 f]) ∧ Below W.heap.size W w') :
    Calls Try.prog 11 #[.agg #[.int .i64 t.count, .int .i64 t.total, .int .i64 t.depth, .pointer p, .slice A n c], .int .i64 i] w fun e w' => e = .returned (.tuple #[.int .i64 v, .int .i64 f]) ∧ Below w.heap.size w w' := by
  have hb := below_new w (.cells #[.int .i64 t.count, .int .i64 t.total, .int .i64 t.depth, .pointer p, .slice A n c] 32)
  have H := Lib.hid (h _ hb)
  obtain ⟨x0, x1, x2, x3, x4⟩ := box5 (heap_alloc_new w (.cells #[.int .i64 t.count, .int .i64 t.total, .int .i64 t.depth, .pointer p, .slice A n c] 32))
  have HB := Lib.hid hb
  clear h hb
  go_enter Try.func11, Try.ntmps11
  go_wp2_with fail
  refine H.out.mono ?_
  rintro e w1 ⟨rfl, kk⟩
  have HB1 := Lib.hid (HB.out.trans (kk.mono HB.out.size))
  clear kk
  go_wp2_with fail
  go_ret2
  exact ⟨rfl, HB1.out⟩
set_option maxRecDepth 100000 in
set_option maxHeartbeats 1000000 in
theorem size_of {t : T} {p A : Option Addr} {n c : Nat} {i v f : Int} {w : World} (h : ∀ W, Below w.heap.size w W → Calls Try.prog 32 #[.agg #[.int .i64 t.count, .int .i64 t.total, .int .i64 t.depth, .pointer p], .int .i64 i] W fun e w' => e = .returned (.tuple #[.int .i64 v, .int .i64 f]) ∧ Below W.heap.size W w') :
    Calls Try.prog 14 #[.agg #[.int .i64 t.count, .int .i64 t.total, .int .i64 t.depth, .pointer p, .slice A n c], .int .i64 i] w fun e w' => e = .returned (.tuple #[.int .i64 v, .int .i64 f]) ∧ Below w.heap.size w w' := by
  have hb := below_new w (.cells #[.int .i64 t.count, .int .i64 t.total, .int .i64 t.depth, .pointer p, .slice A n c] 32)
  have H := Lib.hid (h _ hb)
  obtain ⟨x0, x1, x2, x3, x4⟩ := box5 (heap_alloc_new w (.cells #[.int .i64 t.count, .int .i64 t.total, .int .i64 t.depth, .pointer p, .slice A n c] 32))
  have HB := Lib.hid hb
  clear h hb
  go_enter Try.func14, Try.ntmps14
  go_wp2_with fail
  refine H.out.mono ?_
  rintro e w1 ⟨rfl, kk⟩
  have HB1 := Lib.hid (HB.out.trans (kk.mono HB.out.size))
  clear kk
  go_wp2_with fail
  go_ret2
  exact ⟨rfl, HB1.out⟩
set_option maxRecDepth 100000 in
set_option maxHeartbeats 1000000 in
theorem at_of {t : T} {p A : Option Addr} {n c : Nat} {i a v f : Int} {w : World} (h : ∀ W, Below w.heap.size w W → Calls Try.prog 31 #[.agg #[.int .i64 t.count, .int .i64 t.total, .int .i64 t.depth, .pointer p], .int .i64 i] W fun e w' => e = .returned (.tuple #[.int .i64 a, .int .i64 v, .int .i64 f]) ∧ Below W.heap.size W w') :
    Calls Try.prog 13 #[.agg #[.int .i64 t.count, .int .i64 t.total, .int .i64 t.depth, .pointer p, .slice A n c], .int .i64 i] w fun e w' => e = .returned (.tuple #[.int .i64 a, .int .i64 v, .int .i64 f]) ∧ Below w.heap.size w w' := by
  have hb := below_new w (.cells #[.int .i64 t.count, .int .i64 t.total, .int .i64 t.depth, .pointer p, .slice A n c] 32)
  have H := Lib.hid (h _ hb)
  obtain ⟨x0, x1, x2, x3, x4⟩ := box5 (heap_alloc_new w (.cells #[.int .i64 t.count, .int .i64 t.total, .int .i64 t.depth, .pointer p, .slice A n c] 32))
  have HB := Lib.hid hb
  clear h hb
  go_enter Try.func13, Try.ntmps13
  go_wp2_with fail
  refine H.out.mono ?_
  rintro e w1 ⟨rfl, kk⟩
  have HB1 := Lib.hid (HB.out.trans (kk.mono HB.out.size))
  clear kk
  go_wp2_with fail
  go_ret3
  exact ⟨rfl, HB1.out⟩
/-- the top, the size of a row -/
def topR (r : List (Int × Bool)) (i : Int) : Int × Int := if i < 0 ∨ (r.length : Int) < i then (0, 4) else (pre (sz r) i.toNat, 0)
def sizeR (r : List (Int × Bool)) (i : Int) : Int × Int := if i < 0 ∨ (r.length : Int) ≤ i then (0, 4) else ((sz r).getD i.toNat 0, 0)
theorem top_any {w : World} {r : List (Int × Bool)} {t : T} {p A : Option Addr} {c : Nat} {xs : List S.Sp} (h : Ix w r t p A c xs) (i : Int) (hi : i ≤ 9223372036854775807) :
    Calls Try.prog 11 #[.agg #[.int .i64 t.count, .int .i64 t.total, .int .i64 t.depth, .pointer p, .slice A xs.length c], .int .i64 i] w fun e w' => e = .returned (.tuple #[.int .i64 (topR r i).1, .int .i64 (topR r i).2]) ∧ Below w.heap.size w w' := by
  unfold topR
  by_cases hb : i < 0 ∨ (r.length : Int) < i
  · rw [if_pos hb]
    exact top_of fun W kk => sumR_bad i (h.next kk).ok hi (by rw [h.cnt]; exact hb)
  · rw [if_neg hb]
    obtain ⟨k, rfl⟩ := Int.eq_ofNat_of_zero_le (show 0 ≤ i by omega)
    refine top_of fun W kk => ?_
    have := sumR_ok (p := p) (w := W) (i := k) (h.next kk).nd (h.next kk).ok (by rw [h.cnt]; omega)
    rwa [h.ls.list] at this
theorem size_any {w : World} {r : List (Int × Bool)} {t : T} {p A : Option Addr} {c : Nat} {xs : List S.Sp} (h : Ix w r t p A c xs) (i : Int) (hi : i ≤ 9223372036854775807) :
    Calls Try.prog 14 #[.agg #[.int .i64 t.count, .int .i64 t.total, .int .i64 t.depth, .pointer p, .slice A xs.length c], .int .i64 i] w fun e w' => e = .returned (.tuple #[.int .i64 (sizeR r i).1, .int .i64 (sizeR r i).2]) ∧ Below w.heap.size w w' := by
  unfold sizeR
  by_cases hb : i < 0 ∨ (r.length : Int) ≤ i
  · rw [if_pos hb]
    exact size_of fun W kk => at_bad i (h.next kk).ok hi (by rw [h.cnt]; exact hb)
  · rw [if_neg hb]
    obtain ⟨k, rfl⟩ := Int.eq_ofNat_of_zero_le (show 0 ≤ i by omega)
    refine size_of fun W kk => at_ok (h.next kk).nd (h.next kk).ok ?_
    have hk : k < (sz r).length := by rw [sz_len]; omega
    rw [h.ls.list, List.getD, Int.toNat_natCast, List.getElem?_eq_getElem hk]; rfl
theorem at_out {w : World} {r : List (Int × Bool)} {t : T} {p A : Option Addr} {c : Nat} {xs : List S.Sp} (h : Ix w r t p A c xs) (x : Int) (hb : x < 0 ∨ (sz r).sum ≤ x) :
    Calls Try.prog 13 #[.agg #[.int .i64 t.count, .int .i64 t.total, .int .i64 t.depth, .pointer p, .slice A xs.length c], .int .i64 x] w fun e w' => e = .returned (.tuple #[.int .i64 0, .int .i64 0, .int .i64 4]) ∧ Below w.heap.size w w' :=
  at_of fun W kk => findR_bad x (by rw [h.tot]; exact hb)
theorem at_in {w : World} {r : List (Int × Bool)} {t : T} {p A : Option Addr} {c : Nat} {xs : List S.Sp} (h : Ix w r t p A c xs) {x : Int} {i : Nat} (hp : Place (sz r) x i) :
    Calls Try.prog 13 #[.agg #[.int .i64 t.count, .int .i64 t.total, .int .i64 t.depth, .pointer p, .slice A xs.length c], .int .i64 x] w fun e w' => e = .returned (.tuple #[.int .i64 i, .int .i64 (x - pre (sz r) i), .int .i64 0]) ∧ Below w.heap.size w w' :=
  at_of fun W kk => by
    have := findR_ok (p := p) (w := W) (x := x) (i := i) (h.next kk).nd (h.next kk).ok (by rw [h.ls.list]; exact hp)
    rwa [h.ls.list] at this
end Go.Proofs.Ytdejdnkkbpmmlaa
