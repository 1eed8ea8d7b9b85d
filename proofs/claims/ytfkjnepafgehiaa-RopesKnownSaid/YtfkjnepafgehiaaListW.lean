/- The walks of appendTo and List. -/
import Derived.Test.YtfkjnepafgehiaaSpreadW
import Derived.Test.YtfkjnepafgehiaaFNewW
import Derived.ArgAppend
import Derived.Laws.MakeOwn
namespace Go.Proofs.Ytfkjnepafgehiaa
open Go.RowKit

theorem ret_slice {A : Option Addr} {n m c : Nat} (h : n = m) : Ending.returned (.slice A n c) = .returned (.slice A m c) := by rw [h]
theorem ints_len (zs : List Int) : (ints zs).size = zs.length := by simp [ints]
theorem row_cell {w : World} {S : Nat} {zs : List Int} (h : w.heap[S]? = some (.cells (ints zs) 2 (0, 0))) (k : Nat) (hk : k < zs.length) : w.cell? ⟨S, k, none⟩ = some (.int .i64 zs[k]) := by
  rw [cell_of_row w S k (ints zs) 2 (0, 0) h]
  simp [ints, hk]
theorem row_push {w : World} {S : Nat} {xs rest : List Int} {r v : Int} (h : w.heap[S]? = some (.cells (ints (xs ++ r :: rest)) 2 (0, 0))) :
    (w.setCell ⟨S, xs.length, none⟩ (.int .i64 v)).heap[S]? = some (.cells (ints (xs ++ v :: rest)) 2 (0, 0)) := by
  have e : (ints (xs ++ r :: rest)).setIfInBounds xs.length (.int .i64 v) = ints (xs ++ v :: rest) := by
    rw [ints_set]
    simp [List.set_append_right]
  rw [← e]
  simp [World.setCell, Array.getElem?_modify, h]

/-- one size is appended where there is room -/
theorem wp_push {ops : Array Oper} {rest : List Oper} {o : Oper} {a : Act} {w : World} {Q : Exit → Act → World → Prop} (hgd : o.guard = none) (s x : Operand)
    (ho : o.op = .call { callee := .builtin .append, args := #[s, x], argTypes := #[22, 22] }) (S N g : Nat) (xs zs : List Int) (r v : Int) (hs : a.eval s = .slice (some ⟨S, 0, none⟩) xs.length N) (hx : a.eval x = .slice (some ⟨g, 0, none⟩) 1 1)
    (hS : w.heap[S]? = some (.cells (ints (xs ++ r :: zs)) 2 (0, 0))) (hN : xs.length < N) (hg : w.cell? ⟨g, 0, none⟩ = some (.int .i64 v))
    (h : ∀ W, W.heap[S]? = some (.cells (ints (xs ++ v :: zs)) 2 (0, 0)) → w.grownBy W (some S) → wpList Try.prog ops Q rest (a.put o.dst (.slice (some ⟨S, 0, none⟩) (xs.length + 1) N)) W) : wpList Try.prog ops Q (o :: rest) a w := by
  obtain ⟨i0, hi, hz0, hz1, hz2⟩ := info_parts Try.info2
  refine wpList_plain hgd fun K hK => ?_
  have hrun := run_append_room_cells (P := Try.prog) w 22 o.type 2 i0 Try.underlying22 hi S 0 xs.length N ⟨g, 0, none⟩ 1 1 [.int .i64 v] (by rw [hz1]; rfl)
    (fun j u hj => by
      rcases j with _ | j
      · injection hj with hj; subst hj; exact hg
      · simp at hj)
    (by simp [Value.oneCell']) hN
    (fun j hj => by
      obtain rfl : j = 0 := by simpa using hj
      rw [hz1]
      simp only [Nat.mul_one, Nat.zero_add, Nat.add_zero]
      rw [row_cell hS xs.length (by simp)]
      rfl)
    (fun j hj => by simp [World.frozen?, hS])
  unfold Oper.wp
  simp [execOp, ho, resolve, invoke, builtin, hs, hx, hrun, Result.andThen]
  refine hK _ _ ?_
  rw [hz1]
  simp only [World.setCells, Nat.mul_one]
  exact h _ (row_push hS) (only_setCell (only_refl w (some S)) (.inl rfl) _)

theorem Nd.grown {w w' : World} {S : Nat} {zs : List Int} (hS : w.heap[S]? = some (.cells (ints zs) 2 (0, 0))) (hg : w.grownBy w' (some S)) : ∀ {t : T} {p : Option Addr}, Nd w t p → Nd w' t p
  | .nil, _, h => h
  | .node _ _ _, _, ⟨b, pl, pr, e, h, hl, hr⟩ => ⟨b, pl, pr, e, (hg.block b (heap_lt h) (by
      intro he
      injection he with he
      subst he
      rw [h] at hS
      injection hS with hS
      injection hS with _ ht
      exact absurd ht (by decide))).trans h, Nd.grown hS hg hl, Nd.grown hS hg hr⟩

/-- what appendTo hands back -/
def App (t : T) (S N : Nat) (xs zs : List Int) (w : World) (e : Ending) (w' : World) : Prop :=
  e = .returned (.slice (some ⟨S, 0, none⟩) (xs ++ t.list).length N) ∧ w'.heap[S]? = some (.cells (ints ((xs ++ t.list) ++ zs)) 2 (0, 0)) ∧ w.grownBy w' (some S)
def AppAt (t : T) : Prop := ∀ {p : Option Addr} {w : World} {S N : Nat} {xs ys zs : List Int}, Nd w t p → Ok t.list → w.heap[S]? = some (.cells (ints (xs ++ (ys ++ zs))) 2 (0, 0)) → ys.length = t.count → (xs ++ (ys ++ zs)).length = N → N ≤ 4096 →
    Calls Try.prog 55 #[.agg #[.int .i64 t.count, .int .i64 t.total, .int .i64 t.depth, .pointer p], .slice (some ⟨S, 0, none⟩) xs.length N] w (App t S N xs zs w)

set_option maxHeartbeats 1000000 in
theorem app_nil : AppAt .nil := by
  intro p w S N xs ys zs hn ho hS hy hN hl
  obtain rfl : ys = [] := List.eq_nil_of_length_eq_zero hy
  have HP : Hid (w.heap[S]? = some (.cells (ints (xs ++ zs)) 2 (0, 0))) := Lib.hid hS
  have HB := Lib.hid (only_alloc (only_refl w (some S)) (.cells #[.int .i64 0, .int .i64 0, .int .i64 0, .pointer p] 27))
  have kS := heap_lt hS
  have HE := Lib.hid (show (xs ++ T.nil.list).length = xs.length by simp [T.list])
  have HF := Lib.hid (show (xs ++ T.nil.list) ++ zs = xs ++ zs by simp [T.list])
  clear hn ho hS hy hN hl
  change Calls Try.prog 55 #[.agg #[.int .i64 0, .int .i64 0, .int .i64 0, .pointer p], .slice (some ⟨S, 0, none⟩) xs.length N] w _
  generalize xs.length = n at *
  go_enter Try.func55, Try.ntmps55
  go_wp2_with fail
  go_ret
  refine ⟨ret_slice HE.out.symm, ?_, HB.out⟩
  rw [HF.out]
  exact (Below.heap_alloc _ _ _ kS).trans HP.out

theorem app_split {ys : List Int} {a b : Nat} (h : ys.length = a + 1 + b) : ∃ y1 y y2, ys = y1 ++ y :: y2 ∧ y1.length = a ∧ y2.length = b := by
  refine ⟨ys.take a, ys[a]'(by omega), ys.drop (a + 1), ?_, by rw [List.length_take]; omega, by rw [List.length_drop]; omega⟩
  rw [List.getElem_cons_drop, List.take_append_drop]

theorem only_trans {a b c : World} {row : Option Nat} (h : a.grownBy b row) (k : b.grownBy c row) : a.grownBy c row :=
  ⟨k.os.trans h.os, k.tape.trans h.tape, k.output.trans h.output, Nat.le_trans h.size k.size, fun i hi hn => (k.block i (Nat.lt_of_lt_of_le hi h.size) hn).trans (h.block i hi hn)⟩
theorem grown_heap {w w' : World} {S b : Nat} {o : Obj} (hg : w.grownBy w' (some S)) (h : w.heap[b]? = some o) (hb : b ≠ S) : w'.heap[b]? = some o := (hg.block b (heap_lt h) (fun e => hb (by injection e))).trans h
theorem node_ne {w : World} {S b : Nat} {zs : List Int} {cs : Array Value} (hS : w.heap[S]? = some (.cells (ints zs) 2 (0, 0))) (h : w.heap[b]? = some (.cells cs 75 (0, 0))) : b ≠ S := by
  rintro rfl
  rw [h] at hS
  injection hS with hS
  injection hS with _ ht
  exact absurd ht (by decide)

set_option maxHeartbeats 4000000 in
theorem app_node {l r : T} {x : Int} (il : AppAt l) (ir : AppAt r) : AppAt (.node l x r) := by
  intro p w S N xs ys zs hn ho hS hy hN hl
  have hc := (T.bounds ho).2.2.1
  obtain ⟨o1, o2, o3⟩ := T.parts ho
  obtain ⟨y1, y, y2, rfl, h1, h2⟩ := app_split hy
  have e0 : (((T.node l x r).count : Int) == 0) = false := by simp only [T.count]; simp; omega
  obtain ⟨g, pl, pr, rfl, hn, hll, hr⟩ := hn
  have hB0 := (Below.refl w.heap.size w).alloc (Nat.le_refl _) (.cells #[.int .i64 (T.node l x r).count, .int .i64 (T.node l x r).total, .int .i64 (T.node l x r).depth, .pointer (some ⟨g, 0, none⟩)] 27)
  have hS0 : (w.alloc (.cells #[.int .i64 (T.node l x r).count, .int .i64 (T.node l x r).total, .int .i64 (T.node l x r).depth, .pointer (some ⟨g, 0, none⟩)] 27)).heap[S]? = some (.cells (ints (xs ++ (y1 ++ (y :: y2 ++ zs)))) 2 (0, 0)) := by
    rw [keep_heap hB0 hS]; simp
  have kS := heap_lt hS
  have HC := Lib.hid (il (hll.below hB0) o1 hS0 h1 (by rw [← hN]; simp) hl)
  obtain ⟨i0, i1, i2, i3, i4, i5, i6, i7, i8⟩ := nd_cells (keep_heap hB0 hn)
  have HN := Lib.hid (keep_heap hB0 hn)
  have HR := Lib.hid (hr.below hB0)
  have HX := Lib.hid (show (w.alloc (.cells #[.int .i64 (T.node l x r).count, .int .i64 (T.node l x r).total, .int .i64 (T.node l x r).depth, .pointer (some ⟨g, 0, none⟩)] 27)).heap[w.heap.size]? = some (.cells (rc (T.node l x r).count (T.node l x r).total (T.node l x r).depth (some ⟨g, 0, none⟩)) 27 (0, 0)) from heap_alloc_new _ _)
  have HS0 := Lib.hid hS0
  have HG := Lib.hid (only_alloc (only_refl w (some S)) (.cells #[.int .i64 (T.node l x r).count, .int .i64 (T.node l x r).total, .int .i64 (T.node l x r).depth, .pointer (some ⟨g, 0, none⟩)] 27))
  have HL1 := Lib.hid h1
  have HL2 := Lib.hid h2
  have HN2 := Lib.hid hN
  clear hn hll hr ho hS hS0 hB0 hy h1 h2 hN o1
  have hgS := node_ne HS0.out HN.out
  go_enter Try.func55, Try.ntmps55
  go_wp2_with fail
  refine HC.out.mono ?_
  rintro e w1 ⟨rfl, hS1, g1⟩
  obtain ⟨xl, hxl⟩ : ∃ xl, xs ++ l.list = xl := ⟨_, rfl⟩
  rw [hxl] at hS1 ⊢
  have HXL := Lib.hid hxl
  have hlen : xl.length + 1 + y2.length + zs.length = N := by
    have := HN2.out
    have := HL1.out
    rw [← hxl]
    simp [T.len] at *
    omega
  have hz1 : S < w1.heap.size := heap_lt hS1
  have hz2 : w.heap.size < w1.heap.size := heap_lt (grown_heap g1 HX.out (by omega))
  have HN1 := Lib.hid (grown_heap g1 HN.out hgS)
  have HX1 := Lib.hid (grown_heap g1 HX.out (by omega))
  have HR1 := Lib.hid (Nd.grown HS0.out g1 HR.out)
  have G1 : Hid (w.grownBy w1 (some S)) := Lib.hid (only_trans HG.out g1)
  have hA : (w1.alloc (.cells #[.int .i64 x] 2)).heap[S]? = some (.cells (ints (xl ++ y :: (y2 ++ zs))) 2 (0, 0)) := (Below.heap_alloc _ _ _ hz1).trans hS1
  have HA := Lib.hid hA
  have hX : (w1.alloc (.cells #[.int .i64 x] 2)).cell? ⟨w1.heap.size, 0, none⟩ = some (.int .i64 x) := cell_of_one (heap_alloc_new _ _)
  have HXX := Lib.hid hX
  obtain ⟨x0, x1, x2, x3⟩ := rc_cells HX1.out
  obtain ⟨j0, j1, j2, j3, j4, j5, j6, j7, j8⟩ := nd_cells HN1.out
  clear hxl HC HS0 HN HX HR HG hS1 g1 hA hX i0 i1 i2 i3 i4 i5 i6 i7 i8
  have HXa := Lib.hid ((Below.heap_alloc w1 (.cells #[.int .i64 x] 2) _ hz2).trans HX1.out)
  have HNa := Lib.hid ((Below.heap_alloc w1 (.cells #[.int .i64 x] 2) _ (heap_lt HN1.out)).trans HN1.out)
  have HRa := Lib.hid (HR1.out.below ((Below.refl w1.heap.size w1).alloc (Nat.le_refl _) (.cells #[.int .i64 x] 2)))
  have GA := Lib.hid (only_alloc G1.out (.cells #[.int .i64 x] 2))
  have hSN : w.heap.size ≠ S := by omega
  clear HX1 HN1 HR1 G1
  go_wp2_with (at_builtin; refine wp_push rfl (.tmp 16) (.tmp 22) rfl S N w1.heap.size xl (y2 ++ zs) y x rfl rfl HA.out (by omega) HXX.out ?_; intro W2 hS2 g2; obtain ⟨x0', x1', x2', x3'⟩ := rc_cells (grown_heap g2 HXa.out hSN); obtain ⟨j0', j1', j2', j3', j4', j5', j6', j7', j8'⟩ := nd_cells (grown_heap g2 HNa.out hgS))
  have hR2 := Nd.grown HA.out g2 HRa.out
  have G2 := Lib.hid (only_trans GA.out g2)
  have hS2' : W2.heap[S]? = some (.cells (ints ((xl ++ [x]) ++ (y2 ++ zs))) 2 (0, 0)) := by rw [hS2]; simp
  have hC2 := ir (S := S) (N := N) (xs := xl ++ [x]) (ys := y2) (zs := zs) hR2 o2 hS2' HL2.out (by simp; omega) hl
  rw [show (xl ++ [x]).length = xl.length + 1 by simp] at hC2
  refine hC2.mono ?_
  rintro e w3 ⟨rfl, hS3, g3⟩
  have HS3 := Lib.hid hS3
  have G3 := Lib.hid (only_trans G2.out g3)
  have HQ := Lib.hid (show xl ++ [x] ++ r.list = xs ++ (T.node l x r).list by rw [← HXL.out, T.list]; simp)
  rw [HQ.out] at HS3 ⊢
  clear hS3 g3 hC2 hS2' hR2 g2 hS2
  go_wp2_with fail
  go_ret
  exact ⟨ret_slice (by simp), HS3.out, G3.out⟩

theorem app_at (t : T) : AppAt t := by
  induction t with
  | nil => exact app_nil
  | node l x r hl hr => exact app_node hl hr

theorem run_make_rowN {P : Program} (t e : TypeId) (i : TypeInfo) (z : Value) (ht : P.underlying t = some (.slice e)) (hi : P.info? e = some i) (hz : i.zero = some z)
    (kl kc : IntKind) (n c : Nat) (hnc : n ≤ c) (hbytes : i.bytes * c ≤ 281474976710656) (h63 : c ≤ 9223372036854775807) (w : World) :
    (Instr.makeSlice t (.int kl (n : Int)) (.int kc (c : Int))).run P w = .ok (.slice (some ⟨w.heap.size, 0, none⟩) n c) (w.alloc (.cells (madeCells z.cells (c * i.size)) e)) := by
  have hb : (i.bytes : Int) * (c : Int) ≤ 281474976710656 := by
    have h : ((i.bytes * c : Nat) : Int) ≤ 281474976710656 := by omega
    rwa [Int.natCast_mul] at h
  have hr := run_make (P := P) w t e i z ht hi hz kl kc n c (by omega) (by omega) hb (by omega)
  simp only [Int.toNat_natCast] at hr
  exact hr
theorem make_room (c : Nat) (h : c ≤ 100000) (w : World) :
    (Instr.makeSlice 22 (.int .i64 0) (.int .i64 (c : Int))).run Try.prog w = .ok (.slice (some ⟨w.heap.size, 0, none⟩) 0 c) (w.alloc (.cells (ints (List.replicate c 0)) 2)) := by
  obtain ⟨i0, hi, hz0, hz1, hz2⟩ := info_parts Try.info2
  rw [← madeCells_ints]
  have := run_make_rowN (P := Try.prog) 22 2 i0 (.int .i64 0) Try.underlying22 hi hz0 .i64 .i64 0 c (by omega) (by rw [hz2]; omega) (by omega) w
  rw [hz1, Nat.mul_one] at this
  exact this

/-- what List hands back -/
def Lst (l : List Int) (w : World) (e : Ending) (w' : World) : Prop :=
  ∃ S, e = .returned (.slice (some ⟨S, 0, none⟩) l.length l.length) ∧ w'.heap[S]? = some (.cells (ints l) 2 (0, 0)) ∧ w.heap.size ≤ S ∧ Below w.heap.size w w'
set_option maxHeartbeats 2000000 in
theorem list_any {t : T} {p : Option Addr} {w : World} (hn : Nd w t p) (ho : Ok t.list) :
    Calls Try.prog 39 #[.agg #[.int .i64 t.count, .int .i64 t.total, .int .i64 t.depth, .pointer p]] w (Lst t.list w) := by
  have hc := (T.bounds ho).2.2.1
  have hmk := make_room t.count (by omega)
  have HL := Lib.hid t.len
  have hB0 := (Below.refl w.heap.size w).alloc (Nat.le_refl _) (.cells #[.int .i64 t.count, .int .i64 t.total, .int .i64 t.depth, .pointer p] 27)
  obtain ⟨x0, x1, x2, x3⟩ := rc_cells (w := (w.alloc (.cells #[.int .i64 t.count, .int .i64 t.total, .int .i64 t.depth, .pointer p] 27)).drew) (heap_alloc_new w (.cells (rc t.count t.total t.depth p) 27))
  have HN := Lib.hid hn
  have HO := Lib.hid ho
  have hB1 : Below w.heap.size w (((w.alloc (.cells #[.int .i64 t.count, .int .i64 t.total, .int .i64 t.depth, .pointer p] 27)).alloc (.cells (ints (List.replicate t.count 0)) 2)).drew) := (hB0.alloc hB0.size _).drew
  have AP : Hid (Calls Try.prog 55 #[.agg #[.int .i64 t.count, .int .i64 t.total, .int .i64 t.depth, .pointer p], .slice (some ⟨w.heap.size + 1, 0, none⟩) 0 t.count] (((w.alloc (.cells #[.int .i64 t.count, .int .i64 t.total, .int .i64 t.depth, .pointer p] 27)).alloc (.cells (ints (List.replicate t.count 0)) 2)).drew) (App t (w.heap.size + 1) t.count [] [] (((w.alloc (.cells #[.int .i64 t.count, .int .i64 t.total, .int .i64 t.depth, .pointer p] 27)).alloc (.cells (ints (List.replicate t.count 0)) 2)).drew))) := Lib.hid
    (app_at t (xs := []) (ys := List.replicate t.count 0) (zs := []) (hn.below hB1) ho (by rw [List.nil_append, List.append_nil]; exact new_at (w := w.alloc (.cells #[.int .i64 t.count, .int .i64 t.total, .int .i64 t.depth, .pointer p] 27)) (o := .cells (ints (List.replicate t.count 0)) 2) (w.heap.size + 1) (by simp)) (by simp) (by simp) hc)
  obtain ⟨y0, y1, y2, y3⟩ := rc_cells (w := ((w.alloc (.cells #[.int .i64 t.count, .int .i64 t.total, .int .i64 t.depth, .pointer p] 27)).alloc (.cells (ints (List.replicate t.count 0)) 2)).drew) ((Below.heap_alloc _ _ _ (by simp)).trans (heap_alloc_new w (.cells (rc t.count t.total t.depth p) 27)))
  clear hn ho
  go_enter Try.func39, Try.ntmps39
  go_wp2_with fail
  go_region_held3 (fun U => Below w.heap.size w U ∧ U.cell? ⟨w.heap.size, 0, none⟩ = some (.int .i64 t.count) ∧ U.cell? ⟨w.heap.size, 1, none⟩ = some (.int .i64 t.total) ∧ U.cell? ⟨w.heap.size, 2, none⟩ = some (.int .i64 t.depth) ∧ U.cell? ⟨w.heap.size, 3, none⟩ = some (.pointer p))
    (first
      | exact ⟨hB0.drew, x0, x1, x2, x3⟩
      | exact ⟨hB1, y0, y1, y2, y3⟩
      | exact ⟨hB2, h3.cell y0 (by simp), h3.cell y1 (by simp), h3.cell y2 (by simp), h3.cell y3 (by simp)⟩)
    (first
      | (go_at_call 55; refine AP.out.mono ?_; rintro e w3 ⟨rfl, h1, h3⟩; have hB2 := hB1.grown h3 hB1.size (by intro g hg; injection hg with hg; omega)))
  go_wp2_with fail
  go_ret
  refine ⟨w.heap.size + 1, by rw [HL.out]; rfl, ?_, by omega, hB2⟩
  rw [h1]; simp
end Go.Proofs.Ytfkjnepafgehiaa
