/- The walk of Invert. -/
import Derived.Test.YtakgnpmfnechhaaMadW
import Derived.Test.YtakgnpmfnechhaaChkW
namespace Go.Proofs.Ytakgnpmfnechhaa
open Go.RowKit

def invM (o : Int) (l : List Int) : (Int × List Int) × Int := if chkM o l ≠ 0 then ((0, []), chkM o l) else ((l.length, invL o.toNat l), 0)
theorem atL_snoc {p : List Int} {x : Int} (h : x ∉ p) (j : Int) : atL (p ++ [x]) j = if j = x then (p.length : Int) else atL p j := by
  by_cases e : j = x
  · subst e
    rw [if_pos rfl, atL_mem (by simp), List.idxOf_append, if_neg h]
    simp
  · rw [if_neg e]
    by_cases hj : j ∈ p
    · rw [atL_mem (by simp [hj]), atL_mem hj, List.idxOf_append, if_pos hj]
    · rw [atL_none (by simp [hj, e]), atL_none hj]
/-- the row of the inverse, so far -/
def iF (l : List Int) (i : Nat) : Nat → Value := fun j => .int .i64 (atL (l.take i) j)
theorem iF_none {l : List Int} {i : Nat} (hi : i < l.length) (h : l[i] = -1) : iF l (i + 1) = iF l i := by
  funext j
  unfold iF
  rw [take_one hi, h]
  congr 1
  by_cases hj : (j : Int) ∈ l.take i
  · rw [atL_mem (by simp [hj]), atL_mem hj, List.idxOf_append, if_pos hj]
  · rw [atL_none hj, atL_none]
    simp only [List.mem_append, List.mem_singleton, not_or]
    exact ⟨hj, by omega⟩
theorem iF_step {w : World} {b n : Nat} {l : List Int} {i : Nat} (h : w.rowIs b 3 n (iF l i)) (hv : l.Pairwise Two) (hi : i < l.length) {k : Nat} (hk : l[i] = k) : (w.setCell ⟨b, k, none⟩ (.int .i64 i)).rowIs b 3 n (iF l (i + 1)) := by
  refine World.rowIs.congr (World.rowIs.set h k _) fun j _ => ?_
  unfold iF
  have hn : (k : Int) ∉ l.take i := fun hm => by
    obtain ⟨q, hq, e⟩ := List.getElem_of_mem hm
    rw [List.length_take] at hq
    rw [List.getElem_take] at e
    have := List.pairwise_iff_getElem.1 hv q i (by omega) hi (by omega)
    unfold Two at this
    omega
  rw [take_one hi, hk, atL_snoc hn, List.length_take]
  by_cases e : j = k
  · subst e
    rw [if_pos rfl, if_pos rfl, show min i l.length = i by omega]
  · rw [if_neg e, if_neg (by omega)]
/-- what Invert has in memory -/
structure InI (w wr : World) (l : List Int) (n gb vb : Nat) (i : Nat) : Prop where
  rm : Room wr (w.heap.size + 1)
  bx : wr.heap[vb]? = some (.cells #[.int .i64 l.length, .slice (some ⟨gb, 0, none⟩) n n] 24 (0, 0))
  row : wr.rowIs gb 3 n (iF l i)
  n1 : w.heap.size + 1 < gb
  n2 : vb ≠ gb
  u : Below w.heap.size w wr
theorem inI_start {w w1 w2 : World} {l : List Int} {n gb : Nat} (hr : Room w1 (w.heap.size + 1)) (hu : Below w.heap.size w w1) (hrow : w2.rowIs gb 3 n (fil (fun _ => -1) n)) (hg : w1.heap.size ≤ gb) (hb : Below w1.heap.size w1 w2) (hsz : w.heap.size + 1 < w1.heap.size) :
    InI w (w2.alloc (.cells #[.int .i64 l.length, .slice (some ⟨gb, 0, none⟩) n n] 24)) l n gb w2.heap.size 0 := by
  refine ⟨(hr.keep hb).keep (below_new _ _), heap_alloc_new _ _, World.rowIs.congr (World.rowIs.alloc hrow _) fun j hj => ?_, by omega, by have := World.rowIs.lt hrow; omega, (hu.trans (hb.mono hu.size)).trans ((below_new _ _).mono ((hu.trans (hb.mono hu.size)).size))⟩
  unfold fil iF
  rw [if_pos hj]
  rfl
theorem InI.skip {w wr : World} {l : List Int} {n gb vb i : Nat} (h : InI w wr l n gb vb i) (hi : i < l.length) (hx : l[i] = -1) : InI w wr l n gb vb (i + 1) :=
  ⟨h.rm, h.bx, by rw [iF_none hi hx]; exact h.row, h.n1, h.n2, h.u⟩
theorem InI.put {w wr : World} {l : List Int} {n gb vb i : Nat} (h : InI w wr l n gb vb i) (hv : l.Pairwise Two) (hi : i < l.length) {k : Nat} (hk : l[i] = k) : InI w (wr.setCell ⟨gb, k, none⟩ (.int .i64 i)) l n gb vb (i + 1) := by
  obtain ⟨u, v, hr⟩ := h.rm
  have hn1 := h.n1
  exact ⟨⟨u, v, (Below.heap_setCell _ _ _ _ (by show w.heap.size + 1 ≠ gb; omega)).trans hr⟩, (Below.heap_setCell _ _ _ _ h.n2).trans h.bx, iF_step h.row hv hi hk, h.n1, h.n2, h.u.setCell (by show w.heap.size ≤ gb; omega) _⟩
theorem inI_fin {w wr : World} {l : List Int} {n gb vb : Nat} (h : InI w wr l n gb vb l.length) (hn : n ≤ 4096) :
    MapE ((l.length, invL n l), 0) w (.returned (.tuple #[.agg #[.int .i64 l.length, .slice (some ⟨gb, 0, none⟩) n n], .int .i64 0]))
      ((wr.setCell ⟨w.heap.size + 1, 0, none⟩ (.int .i64 l.length)).setCell ⟨w.heap.size + 1, 1, none⟩ (.slice (some ⟨gb, 0, none⟩) n n)) := by
  have hrow : wr.rowIs gb 3 n (fil (fun k => atL l k) n) := World.rowIs.congr h.row fun j hj => by
    unfold fil iF
    rw [if_pos hj, List.take_length]
  have hs := sl_set2 (g := w.heap.size + 1) (u := .int .i64 l.length) (v := .slice (some ⟨gb, 0, none⟩) n n) (fil_list hrow (by omega)) (fun p e => by injection e with e; subst e; exact h.n1)
  have hn1 := h.n1
  refine ⟨some ⟨gb, 0, none⟩, by simp only [invL_len], (by show SlI _ _ (invL n l).length (invL n l); rw [invL_len]; exact hs), fun p e => ?_, below_set2 h.u (by omega)⟩
  injection e with e
  subst e
  show w.heap.size ≤ gb
  omega
theorem inv_start {w : World} {A : Option Addr} {c : Nat} {l : List Int} (o : Int) (h : SlI w A c l) :
    Mv ((w.alloc (.cells #[.int .i64 o, .slice A l.length c] 24)).alloc (.cells #[.int .i64 0, .slice none 0 0] 24)) w.heap.size o A c l ∧
    Room ((w.alloc (.cells #[.int .i64 o, .slice A l.length c] 24)).alloc (.cells #[.int .i64 0, .slice none 0 0] 24)) (w.heap.size + 1) ∧
    Below w.heap.size w ((w.alloc (.cells #[.int .i64 o, .slice A l.length c] 24)).alloc (.cells #[.int .i64 0, .slice none 0 0] 24)) :=
  ⟨(Mv.new h).next (below_new _ _), ⟨_, _, new_at _ (by simp)⟩, ((Below.refl _ _).alloc (Nat.le_refl _) _).alloc (by simp) _⟩
set_option maxHeartbeats 2000000 in
theorem invert_err {w : World} {A : Option Addr} {c : Nat} {l : List Int} (o : Int) (h : SlI w A c l) {p : Int} (hp : chkM o l = p) (h0 : p ≠ 0) :
    Calls Try.prog 13 #[.agg #[.int .i64 o, .slice A l.length c]] w (MapE ((0, []), p) w) := by
  obtain ⟨hm, hr, hu⟩ := inv_start o h
  have K := check_any o c hm.sl.rd h.len
  rw [hp] at K
  have K := Lib.hid K
  have HR := Lib.hid hr
  have HU := Lib.hid hu
  have hq1 : (p == 0) = false := by simpa using h0
  have hq2 : (p != 0) = true := by simpa using h0
  obtain ⟨a0, a1⟩ := hm.cells
  clear h hm hr hu hp h0
  go_enter Try.func13, Try.ntmps13
  go_wp2_with fail
  refine K.out.mono ?_
  rintro e w1 ⟨rfl, hb⟩
  clear K
  have hR3 := HR.out.keep hb
  obtain ⟨u', v', c0, c1, f0, f1⟩ := hR3.open_
  have HR3 := Lib.hid hR3
  have HB := Lib.hid (below_set2 (u := .int .i64 0) (v := .slice none 0 0) (HU.out.trans (hb.mono HU.out.size)) (show w.heap.size ≤ w.heap.size + 1 by omega))
  clear hb hR3 HR HU a0 a1
  go_wp2_with fail
  exact bodyPost_ret (res_map_err (u := 3) rfl (g := w.heap.size + 1) rfl (heap_set2 HR3.out)) rfl (mapE_err HB.out)
set_option maxRecDepth 100000 in
set_option maxHeartbeats 4000000 in
theorem invert_ok {w : World} {A : Option Addr} {c : Nat} {l : List Int} (n : Nat) (h : SlI w A c l) (hv : Vm n l) :
    Calls Try.prog 13 #[.agg #[.int .i64 n, .slice A l.length c]] w (MapE ((l.length, invL n l), 0) w) := by
  obtain ⟨hm, hr, hu⟩ := inv_start n h
  have K := check_any n c hm.sl.rd h.len
  rw [chkM_zero.2 hv] at K
  have K := Lib.hid K
  have HS := Lib.hid h.rd
  have HI := Lib.hid (show _ ∧ _ ∧ _ from ⟨hm, hr, hu⟩)
  have HV := Lib.hid hv
  have hn : n ≤ 4096 := by have := hv.o1; omega
  have hl : l.length ≤ 4096 := hv.len
  obtain ⟨a0, a1⟩ := hm.cells
  have hsz : w.heap.size + 1 < ((w.alloc (.cells #[.int .i64 n, .slice A l.length c] 24)).alloc (.cells #[.int .i64 0, .slice none 0 0] 24)).heap.size := by simp
  clear h hm hr hu hv
  go_enter Try.func13, Try.ntmps13
  go_wp2_with fail
  refine K.out.mono ?_
  rintro e w1 ⟨rfl, hb⟩
  clear K a0 a1
  have hm := HI.out.1.next hb
  obtain ⟨a0, a1⟩ := hm.cells
  have HI1 := Lib.hid (show Room w1 (w.heap.size + 1) ∧ Below w.heap.size w w1 ∧ w.heap.size + 1 < w1.heap.size from ⟨HI.out.2.1.keep hb, HI.out.2.2.trans (hb.mono HI.out.2.2.size), Nat.lt_of_lt_of_le hsz hb.size⟩)
  have HM := Lib.hid hm
  have M := Lib.hid (made35 (w := w1) l.length n (fun _ => -1) hn (fun W _ k _ => clos35 W k))
  clear hb hsz HI hm
  go_wp2_with fail
  refine M.out.mono ?_
  rintro e w2 ⟨gb, rfl, hrow, hgb, hb⟩
  have H0 := Lib.hid (inI_start (l := l) HI1.out.1 HI1.out.2.1 hrow hgb hb HI1.out.2.2)
  have hm2 := HM.out.next hb
  have HM2 := Lib.hid (hm2.next (below_new _ (.cells #[.int .i64 l.length, .slice (some ⟨gb, 0, none⟩) n n] 24)))
  clear M HM a0 a1 hrow hgb hb hm2 HI1
  obtain ⟨vb, hvb⟩ : ∃ vb : Nat, w2.heap.size = vb := ⟨_, rfl⟩
  obtain ⟨V, hV⟩ : ∃ V : World, w2.alloc (.cells #[.int .i64 l.length, .slice (some ⟨gb, 0, none⟩) n n] 24) = V := ⟨_, rfl⟩
  rw [hvb, hV] at H0
  rw [hV] at HM2
  obtain ⟨a0, a1⟩ := HM2.out.cells
  go_wp2_with fail
  clear hvb hV a0 a1 HM2
  go_loopw [23] (fun v wr => ∃ i : Nat, i ≤ l.length ∧ v = .int .i64 i ∧ Hid (InI w wr l n gb vb i)) (fun v _ => l.length - (intOf v).toNat)
  case atStart => exact ⟨0, Nat.zero_le _, rfl, H0⟩
  case round =>
    obtain ⟨i, hi, rfl, HI⟩ := hrel
    clear H0
    by_cases hlt : i < l.length
    · obtain ⟨b, q, rfl, hb, hc⟩ := HS.out.below HI.out.u i hlt
      have hx := HV.out.rng _ (List.getElem_mem hlt)
      have HN := Lib.hid (fun e => HI.out.skip hlt e)
      have HT := Lib.hid (fun (k : Nat) (e : l[i] = k) => HI.out.put HV.out.one hlt e)
      obtain ⟨y, hy⟩ : ∃ y, l[i] = y := ⟨_, rfl⟩
      rw [hy] at hc hx HN HT
      clear hy hb
      by_cases hn1 : y = -1
      · subst hn1
        have HN2 := Lib.hid (HN.out rfl)
        clear HN HT
        go_wp2_with fail
        go_roundw
        case rel => exact ⟨i + 1, by omega, by go_num, HN2⟩
        case measure => first | (simp [intOf]; done) | (simp [intOf]; omega)
      · obtain ⟨k, rfl⟩ : ∃ k : Nat, y = k := ⟨y.toNat, by omega⟩
        have hk : k < n := by omega
        have hn3 : ((k : Int) == -1) = false := by simp
        have HT2 := Lib.hid (HT.out k rfl)
        have b1 := cell_of_row _ _ 1 _ 24 (0, 0) HI.out.bx
        have b1' : wr.cell? ⟨vb, 1, none⟩ = some (.slice (some ⟨gb, 0, none⟩) n n) := b1
        have hcell := World.rowIs.cell HI.out.row hk
        have hfr := World.rowIs.frozen HI.out.row k
        unfold iF at hcell
        generalize atL (l.take i) k = z at hcell
        clear HN HT b1
        go_wp2_with fail
        go_roundw
        case rel => exact ⟨i + 1, by omega, by go_num, HT2⟩
        case measure => first | (simp [intOf]; done) | (simp [intOf]; omega)
    · have hil : i = l.length := by omega
      replace HI : Hid (InI w wr l n gb vb l.length) := hil ▸ HI
      have b0 : wr.cell? ⟨vb, 0, none⟩ = some (.int .i64 l.length) := cell_of_row _ _ 0 _ 24 (0, 0) HI.out.bx
      have b1 : wr.cell? ⟨vb, 1, none⟩ = some (.slice (some ⟨gb, 0, none⟩) n n) := cell_of_row _ _ 1 _ 24 (0, 0) HI.out.bx
      obtain ⟨u', v', c0, c1, f0, f1⟩ := HI.out.rm.open_
      have HF := Lib.hid (inI_fin HI.out hn)
      have HRM := Lib.hid HI.out.rm
      have hnl : ¬ (i < l.length) := hlt
      clear hil HI
      go_wp2_with fail
      exact bodyPost_ret (res_map_err (u := 3) rfl (g := w.heap.size + 1) rfl (heap_set2 HRM.out)) rfl HF.out
theorem invert_any {w : World} {A : Option Addr} {c : Nat} {l : List Int} (o : Int) (h : SlI w A c l) :
    Calls Try.prog 13 #[.agg #[.int .i64 o, .slice A l.length c]] w (MapE (invM o l) w) := by
  unfold invM
  by_cases h0 : chkM o l = 0
  · rw [if_neg (by omega)]
    have hv := chkM_zero.1 h0
    obtain ⟨n, rfl⟩ : ∃ n : Nat, o = n := ⟨o.toNat, by have := hv.o0; omega⟩
    rw [Int.toNat_natCast]
    exact invert_ok n h hv
  · rw [if_pos h0]
    exact invert_err o h rfl h0
end Go.Proofs.Ytakgnpmfnechhaa
