/- lengthsFrom: the lengths from each position on. -/
import Derived.Test.YtejgcpohdbiaoaaSrcW
import Derived.Deep.Cut
namespace Go.Proofs.Ytejgcpohdbiaoaa
open Go.RowKit

def nats (l : List Nat) : List Int := l.map Int.ofNat
theorem nats_len (l : List Nat) : (nats l).length = l.length := by simp [nats]
/-- ahead of each round: the first i numbers are left -/
structure LenI (w wr : World) (s pb : Nat) (A : Option Addr) (c : Nat) (l : List Int) (i : Nat) (F : List Int) : Prop where
  box : wr.heap[s]? = some (.cells #[.slice A l.length c] 22 (0, 0))
  idx : wr.heap[pb]? = some (.cells #[.int .i64 ((i : Int) - 1)] 3 (0, 0))
  out : RI wr (s + 1) (List.replicate i 0 ++ nats (lenF (l.drop i)))
  row : RI wr (s + 1 + 1) (F ++ List.replicate (l.length - F.length) 0)
  fst : Fst F (l.drop i)
  u : Below s w wr
  pb : s + 1 + 1 < pb
  le : i ≤ l.length
/-- the number that a variable holds, and one -/
def idxAt (p : Value) (w : World) : Nat :=
  match p with
  | .pointer (some a) => match w.cell? a with
    | some v => (intOf v + 1).toNat
    | none => 0
  | _ => 0
theorem idxAt_eq {w : World} {b : Nat} {x : Int} (h : w.heap[b]? = some (.cells #[.int .i64 x] 3 (0, 0))) : idxAt (.pointer (some ⟨b, 0, none⟩)) w = (x + 1).toNat := by
  simp only [idxAt, cell_of_one h, intOf]
theorem LenI.top_le {w wr : World} {s pb : Nat} {A : Option Addr} {c : Nat} {l : List Int} {i : Nat} {F : List Int} (h : LenI w wr s pb A c l i F) : F.length ≤ l.length - i := by
  have h1 := h.fst.len
  have h2 := Ytejgcpohdbiaoaa.top_le (l.drop i)
  rw [List.length_drop] at h2
  omega
theorem len_start {w : World} {A : Option Addr} {c s : Nat} {l : List Int} (hs : w.heap.size = s) :
    LenI w ((((w.alloc (.cells #[.slice A l.length c] 22)).alloc (.cells (madeCells #[.int .i64 0] l.length) 3)).alloc (.cells (madeCells #[.int .i64 0] l.length) 3)).alloc (.cells #[.int .i64 ((l.length : Int) - 1)] 3)) s (s + 1 + 1 + 1) A c l l.length [] := by
  subst hs
  have h1 := heap_alloc_new w (.cells #[.slice A l.length c] 22)
  have h2 := RI.made (w.alloc (.cells #[.slice A l.length c] 22)) l.length
  have h3 := RI.made ((w.alloc (.cells #[.slice A l.length c] 22)).alloc (.cells (madeCells #[.int .i64 0] l.length) 3)) l.length
  have h4 := heap_alloc_new (((w.alloc (.cells #[.slice A l.length c] 22)).alloc (.cells (madeCells #[.int .i64 0] l.length) 3)).alloc (.cells (madeCells #[.int .i64 0] l.length) 3)) (.cells #[.int .i64 ((l.length : Int) - 1)] 3)
  have b2 := below_new (w.alloc (.cells #[.slice A l.length c] 22)) (.cells (madeCells #[.int .i64 0] l.length) 3)
  have b3 := below_new ((w.alloc (.cells #[.slice A l.length c] 22)).alloc (.cells (madeCells #[.int .i64 0] l.length) 3)) (.cells (madeCells #[.int .i64 0] l.length) 3)
  have b4 := below_new (((w.alloc (.cells #[.slice A l.length c] 22)).alloc (.cells (madeCells #[.int .i64 0] l.length) 3)).alloc (.cells (madeCells #[.int .i64 0] l.length) 3)) (.cells #[.int .i64 ((l.length : Int) - 1)] 3)
  have e1 : (w.alloc (.cells #[.slice A l.length c] 22)).heap.size = w.heap.size + 1 := by simp
  have e2 : ((w.alloc (.cells #[.slice A l.length c] 22)).alloc (.cells (madeCells #[.int .i64 0] l.length) 3)).heap.size = w.heap.size + 1 + 1 := by simp
  have e3 : (((w.alloc (.cells #[.slice A l.length c] 22)).alloc (.cells (madeCells #[.int .i64 0] l.length) 3)).alloc (.cells (madeCells #[.int .i64 0] l.length) 3)).heap.size = w.heap.size + 1 + 1 + 1 := by simp
  rw [e1] at h2
  rw [e2] at h3
  rw [e3] at h4
  exact { box := keep_heap b4 (keep_heap b3 (keep_heap b2 h1))
          idx := h4
          out := by
            rw [List.drop_length]
            simp only [lenF, nats, List.map_nil, List.append_nil]
            exact (h2.next b3).next b4
          row := by simpa using h3.next b4
          fst := by rw [List.drop_length]; exact Fst.nil
          u := (((Below.refl _ _).alloc (Nat.le_refl _) _).alloc (by simp) _).alloc (by simp; omega) _ |>.alloc (by simp; omega) _
          pb := by omega
          le := Nat.le_refl _ }
theorem LenI.next {w wr w' : World} {s pb : Nat} {A : Option Addr} {c : Nat} {l : List Int} {i : Nat} {F : List Int} (h : LenI w wr s pb A c l i F) (hb : Below wr.heap.size wr w') (hs : s ≤ wr.heap.size) : LenI w w' s pb A c l i F :=
  ⟨keep_heap hb h.box, keep_heap hb h.idx, h.out.next hb, h.row.next hb, h.fst, h.u.trans (hb.mono hs), h.pb, h.le⟩
theorem LenI.sz {w wr : World} {s pb : Nat} {A : Option Addr} {c : Nat} {l : List Int} {i : Nat} {F : List Int} (h : LenI w wr s pb A c l i F) : s + 1 + 1 < wr.heap.size := h.row.lt
/-- behind the two stores -/
structure LenJ (w wr : World) (s pb : Nat) (A : Option Addr) (c : Nat) (l : List Int) (q m : Nat) (F : List Int) : Prop where
  box : wr.heap[s]? = some (.cells #[.slice A l.length c] 22 (0, 0))
  idx : wr.heap[pb]? = some (.cells #[.int .i64 (q : Int)] 3 (0, 0))
  out : RI wr (s + 1) (List.replicate q 0 ++ nats (lenF (l.drop q)))
  row : RI wr (s + 1 + 1) (F ++ List.replicate (l.length - F.length) 0)
  fst : Fst F (l.drop q)
  u : Below s w wr
  pb : s + 1 + 1 < pb
  le : q ≤ l.length
theorem LenI.row_set {w wr : World} {s pb : Nat} {A : Option Addr} {c : Nat} {l : List Int} {q : Nat} {F : List Int} (h : LenI w wr s pb A c l (q + 1) F) (hq : q < l.length) :
    ∃ F', Fst F' (l.drop q) ∧ F'.length = max F.length (mx l[q] (l.drop (q + 1)) + 1) ∧ RI (wr.setCell ⟨s + 1 + 1, mx l[q] (l.drop (q + 1)), none⟩ (.int .i64 l[q])) (s + 1 + 1) (F' ++ List.replicate (l.length - F'.length) 0) := by
  have hf := h.fst
  have hr := h.row.set (mx l[q] (l.drop (q + 1))) l[q]
  have hlen := hf.len
  have hmt := mx_top l[q] (l.drop (q + 1))
  have htl := h.top_le
  have hdr : l.drop q = l[q] :: l.drop (q + 1) := List.drop_eq_getElem_cons hq
  rcases Nat.lt_or_ge (mx l[q] (l.drop (q + 1))) (top (l.drop (q + 1))) with h1 | h1
  · refine ⟨_, by rw [hdr]; exact hf.set h1, by rw [List.length_set]; omega, ?_⟩
    rw [List.set_append_left _ _ (by omega)] at hr
    rw [List.length_set]
    exact hr
  · have e : mx l[q] (l.drop (q + 1)) = top (l.drop (q + 1)) := by omega
    refine ⟨_, by rw [hdr]; exact hf.push e, by rw [List.length_append, List.length_singleton]; omega, ?_⟩
    rw [List.set_append_right _ _ (by omega), show mx l[q] (l.drop (q + 1)) - F.length = 0 by omega] at hr
    obtain ⟨z, hz⟩ : ∃ z, l.length - F.length = z + 1 := ⟨l.length - F.length - 1, by omega⟩
    rw [hz, List.replicate_succ, List.set_cons_zero] at hr
    rw [List.length_append, List.length_singleton, show l.length - (F.length + 1) = z by omega, List.append_assoc]
    exact hr
theorem LenI.both {w wr : World} {s pb : Nat} {A : Option Addr} {c : Nat} {l : List Int} {q : Nat} {F : List Int} (h : LenI w wr s pb A c l (q + 1) F) (hq : q < l.length) :
    ∃ F', F'.length = max F.length (mx l[q] (l.drop (q + 1)) + 1) ∧ LenJ w ((wr.setCell ⟨s + 1 + 1, mx l[q] (l.drop (q + 1)), none⟩ (.int .i64 l[q])).setCell ⟨s + 1, q, none⟩ (.int .i64 ((mx l[q] (l.drop (q + 1)) : Int) + 1))) s pb A c l q (mx l[q] (l.drop (q + 1))) F' := by
  obtain ⟨F', h1, h2, h3⟩ := h.row_set hq
  have hpb := h.pb
  refine ⟨F', h2, ?_, ?_, ?_, h3.other (by omega), h1, (h.u.setCell (by show s ≤ s + 1 + 1; omega) _).setCell (by show s ≤ s + 1; omega) _, hpb, by omega⟩
  · rw [Below.heap_setCell _ _ _ _ (by show s ≠ s + 1; omega), Below.heap_setCell _ _ _ _ (by show s ≠ s + 1 + 1; omega)]
    exact h.box
  · rw [Below.heap_setCell _ _ _ _ (by show pb ≠ s + 1; omega), Below.heap_setCell _ _ _ _ (by show pb ≠ s + 1 + 1; omega), h.idx]
    congr 6
    omega
  · have h4 := (h.out.other (g := s + 1 + 1) (i := mx l[q] (l.drop (q + 1))) (u := .int .i64 l[q]) (by omega)).set q ((mx l[q] (l.drop (q + 1)) : Int) + 1)
    have e : (List.replicate (q + 1) (0 : Int) ++ nats (lenF (l.drop (q + 1)))).set q ((mx l[q] (l.drop (q + 1)) : Int) + 1) = List.replicate q 0 ++ nats (lenF (l.drop q)) := by
      rw [List.drop_eq_getElem_cons hq, List.replicate_succ', List.append_assoc, List.set_append_right _ _ (by simp)]
      simp [lenF, nats]
    rw [e] at h4
    exact h4
/-- the next number's variable -/
theorem LenJ.fin {w wr : World} {s pb : Nat} {A : Option Addr} {c : Nat} {l : List Int} {q m g : Nat} {F : List Int} (h : LenJ w wr s pb A c l q m F) (hg : wr.heap.size = g) :
    LenI w (wr.alloc (.cells #[.int .i64 ((q : Int) - 1)] 3)) s g A c l q F := by
  have hb := below_new wr (.cells #[.int .i64 ((q : Int) - 1)] 3)
  have := h.row.lt
  exact ⟨keep_heap hb h.box, new_at g hg, h.out.next hb, h.row.next hb, h.fst, h.u.trans (hb.mono (by omega)), by omega, h.le⟩
set_option maxRecDepth 100000 in
set_option maxHeartbeats 4000000 in
theorem lengths_any {w : World} {A : Option Addr} {c : Nat} {l : List Int} (h : SlI w A c l) (hl : l.length ≤ 4096) :
    Calls Try.prog 24 #[.slice A l.length c] w fun e w' => (∃ g, e = .returned (.tuple #[.slice (some ⟨g, 0, none⟩) l.length l.length, .int .i64 (top l)]) ∧ RI w' g (nats (lenF l))) ∧ Below w.heap.size w w' := by
  have HS := Lib.hid h
  obtain ⟨s, hs⟩ : ∃ s : Nat, w.heap.size = s := ⟨_, rfl⟩
  have H0 := Lib.hid (len_start (A := A) (c := c) (l := l) hs)
  have hmk := make_ints l.length l.length l.length l.length rfl rfl (Nat.le_refl _) (by omega)
  clear h
  go_enter Try.func24, Try.ntmps24
  go_upto_region 4 with fail
  obtain ⟨V, hV⟩ : ∃ V : World, ((((w.alloc (.cells #[.slice A l.length c] 22)).alloc (.cells (madeCells #[.int .i64 0] l.length) 3)).alloc (.cells (madeCells #[.int .i64 0] l.length) 3)).alloc (.cells #[.int .i64 ((l.length : Int) - 1)] 3)) = V := ⟨_, rfl⟩
  rw [hV] at H0 ⊢
  have HH := Lib.hid hs
  clear hV hmk hs
  go_wp2_with fail
  go_loopw [3, 5] (fun lg p wr => ∃ (i pb : Nat) (F : List Int), lg = .int .i64 F.length ∧ p = .pointer (some ⟨pb, 0, none⟩) ∧ Hid (LenI w wr s pb A c l i F)) (fun _ p wr => idxAt p wr)
  case atStart => exact ⟨l.length, _, [], rfl, rfl, H0⟩
  case round =>
    clear H0
    obtain ⟨i, pb, F, rfl, rfl, HI⟩ := hrel
    have hx := cell_of_one HI.out.idx
    have hle := HI.out.le
    rcases Nat.eq_zero_or_pos i with rfl | hp
    · go_wp2_with fail
      go_ret2
      have h1 := HI.out
      have h2 := h1.out
      have h3 := h1.fst.len
      rw [List.drop_zero] at h2 h3
      refine ⟨⟨s + 1, ?_, by simpa using h2⟩, by rw [HH.out]; exact h1.u⟩
      rw [h3]; rfl
    · obtain ⟨q, rfl⟩ : ∃ q, i = q + 1 := ⟨i - 1, by omega⟩
      have hq : ((q + 1 : Nat) : Int) - 1 = (q : Int) := by omega
      rw [hq] at hx
      have htl := HI.out.top_le
      have HX := Lib.hid (idxAt_eq HI.out.idx)
      clear hp
      go_upto_region 7 with fail
      obtain ⟨vb, hvb⟩ : ∃ vb : Nat, wr.heap.size = vb := ⟨_, rfl⟩
      obtain ⟨V, hV⟩ : ∃ V : World, V = wr.alloc (.cells #[.slice (some ⟨s + 1 + 1, 0, none⟩) F.length F.length] 22) := ⟨_, rfl⟩
      have hVv : V.heap[vb]? = some (.cells #[.slice (some ⟨s + 1 + 1, 0, none⟩) F.length F.length] 22 (0, 0)) := by rw [hV]; exact new_at _ hvb
      have hI2 : LenI w V s pb A c l (q + 1) F := HI.out.next (by rw [hV]; exact below_new _ _) (by have := HI.out.sz; omega)
      rw [← hV, hvb]
      have hlt : q < l.length := by omega
      have hrd : RdI V V.heap.size A l := (HS.out.rd.below (hI2.u.mono (by rw [HH.out]; exact Nat.le_refl _))).more (by have := hI2.sz; rw [HH.out]; omega)
      have hcap : Cap V vb s pb (s + 1 + 1) F.length (F ++ List.replicate (l.length - F.length) 0) A c l q := ⟨hVv, hI2.box, by rw [hI2.idx, hq], hI2.row, by simp, hrd, hlt⟩
      have hfst := hI2.fst
      have hmt := mx_top l[q] (l.drop (q + 1))
      have hsr := search_any hcap (mx l[q] (l.drop (q + 1))) (by rw [hfst.len]; exact hmt) (by omega) (fun k h1 h2 h3 => by
        rw [List.getElem_append_left h3]
        exact hfst.at_ l[q] k h3)
      have hmF : mx l[q] (l.drop (q + 1)) ≤ F.length := by rw [hfst.len]; exact hmt
      have HI2 := Lib.hid hI2
      have HR := Lib.hid hsr
      have HRD := Lib.hid hrd
      clear hV hVv hvb hcap hI2 HI hfst hmt hsr hx hrd
      go_wp2_with fail
      refine HR.out.mono ?_
      rintro e w1 ⟨rfl, d, rfl⟩
      have HI3 := Lib.hid (HI2.out.next (below_drewN V d) (by have := HI2.out.sz; omega))
      obtain ⟨b, o, hA, hb, g4⟩ := HRD.out q hlt
      have HRD2 : Hid ((V.drewN d).cell? ⟨b, o + q, none⟩ = some (.int .i64 l[q])) := Lib.hid g4
      obtain ⟨F', hF', hJ⟩ := HI3.out.both hlt
      have HJ := Lib.hid hJ
      have HF := Lib.hid hF'
      clear hF' hJ HR HRD g4 HI2
      obtain ⟨m, hm⟩ : ∃ m, mx l[q] (l.drop (q + 1)) = m := ⟨_, rfl⟩
      rw [hm] at HJ HF hmF ⊢
      obtain ⟨x, hx⟩ : ∃ x, l[q] = x := ⟨_, rfl⟩
      rw [hx] at HJ HRD2
      clear hm hx
      obtain ⟨W, hW⟩ : ∃ W : World, V.drewN d = W := ⟨_, rfl⟩
      rw [hW] at HI3 HRD2 HJ ⊢
      clear hW
      have c0 := cell_of_one HI3.out.box
      have c1 := cell_of_one HI3.out.idx
      rw [hq] at c1
      have c2 := HRD2.out
      have f2 := HI3.out.row.frozen m
      subst hA
      obtain ⟨z, c3⟩ : ∃ z, W.cell? ⟨s + 1 + 1, m, none⟩ = some (.int .i64 z) := ⟨_, HI3.out.row.cell (List.getElem?_eq_getElem (by simp; omega))⟩
      have hml : m < l.length := by omega
      go_upto_region 9 with fail
      obtain ⟨W1, hW1⟩ : ∃ W1 : World, W.setCell ⟨s + 1 + 1, m, none⟩ (.int .i64 x) = W1 := ⟨_, rfl⟩
      have hout : RI W1 (s + 1) (List.replicate (q + 1) 0 ++ nats (lenF (l.drop (q + 1)))) := by rw [← hW1]; exact HI3.out.out.other (by omega)
      have d1 : W1.cell? ⟨pb, 0, none⟩ = some (.int .i64 q) := by
        rw [← hW1]
        have hpb := HI3.out.pb
        exact (World.cell?_of_block (Below.heap_setCell W _ _ pb (by show pb ≠ s + 1 + 1; omega))).trans c1
      obtain ⟨z2, d3⟩ : ∃ z, W1.cell? ⟨s + 1, q, none⟩ = some (.int .i64 z) := ⟨_, hout.cell (List.getElem?_eq_getElem (by simp; omega))⟩
      have d4 := hout.frozen q
      rw [hW1] at HJ ⊢
      clear c0 c1 c2 c3 f2 hW1 hout HI3 HRD2
      go_upto_region 10 with fail
      obtain ⟨W2, hW2⟩ : ∃ W2 : World, W1.setCell ⟨s + 1, q, none⟩ (.int .i64 ((m : Int) + 1)) = W2 := ⟨_, rfl⟩
      rw [hW2] at HJ ⊢
      have e1 := cell_of_one HJ.out.idx
      obtain ⟨g, hg⟩ : ∃ g : Nat, W2.heap.size = g := ⟨_, rfl⟩
      have HFi := Lib.hid (HJ.out.fin hg)
      clear d1 d3 d4 hW2
      go_wp2_with fail
      go_roundw
      case rel => exact ⟨q, g, F', by rw [HF.out]; exact congrArg (Value.int .i64) (by split <;> omega), rfl, HFi⟩
      case measure =>
        have h1 := idxAt_eq HFi.out.idx
        have h2 := HX.out
        show idxAt _ _ < idxAt _ _
        refine Nat.lt_of_le_of_lt (Nat.le_of_eq h1) (Nat.lt_of_lt_of_le ?_ (Nat.le_of_eq h2.symm))
        omega
end Go.Proofs.Ytejgcpohdbiaoaa
