/- The walk of Check. -/
import Derived.Test.YtakgnpmfnechhaaBase
namespace Go.Proofs.Ytakgnpmfnechhaa
open Go.RowKit

theorem zero66 (W : World) : (zeroValue 66).run Try.prog W = .ok (.agg (Array.replicate 4096 (.bool false))) W := by kernel_rfl
theorem zero66' : ∃ Z : Array Value, Hid (Z = Array.replicate 4096 (.bool false)) ∧ ¬ Z = #[] ∧ ∀ W, (zeroValue 66).run Try.prog W = .ok (.agg Z) W := ⟨_, Lib.hid rfl, by simp, zero66⟩
/-- what was seen among the first i numbers -/
def sn (l : List Int) (i : Nat) : Nat → Value := fun j => .bool (decide ((j : Int) ∈ l.take i))
theorem take_one {l : List Int} {i : Nat} (h : i < l.length) : l.take (i + 1) = l.take i ++ [l[i]] := List.take_succ_eq_append_getElem h
theorem sn_none {l : List Int} {i : Nat} (hi : i < l.length) (h : l[i] = -1) : sn l (i + 1) = sn l i := by
  funext j
  unfold sn
  rw [take_one hi, h]
  have : ((j : Int) ∈ l.take i ++ [-1]) ↔ (j : Int) ∈ l.take i := by
    simp only [List.mem_append, List.mem_singleton]
    constructor
    · rintro (h | h)
      · exact h
      · omega
    · exact .inl
  simp only [this]
theorem sn_step {w : World} {b : Nat} {l : List Int} {i : Nat} (h : w.rowIs b 66 4096 (sn l i)) (hi : i < l.length) {k : Nat} (hk : l[i] = k) : (w.setCell ⟨b, k, none⟩ (.bool true)).rowIs b 66 4096 (sn l (i + 1)) := by
  refine World.rowIs.congr (World.rowIs.set h k _) fun j _ => ?_
  unfold sn
  rw [take_one hi, hk]
  by_cases e : j = k
  · subst e
    rw [if_pos rfl]
    simp
  · rw [if_neg e]
    have : ((j : Int) ∈ l.take i ++ [(k : Int)]) ↔ (j : Int) ∈ l.take i := by
      simp only [List.mem_append, List.mem_singleton]
      constructor
      · rintro (h | h)
        · exact h
        · omega
      · exact .inl
    simp only [this]
theorem sn_start (w : World) {Z : Array Value} (h : Z = Array.replicate 4096 (.bool false)) (l : List Int) : (w.alloc (.cells Z 66)).rowIs w.heap.size 66 4096 (sn l 0) := by
  have h1 := World.rowIs_alloc w Z 66 (sn l 0) (by
    subst h
    intro i hi
    rw [Array.size_replicate] at hi
    simp [sn, hi])
  have h2 : Z.size = 4096 := by rw [h, Array.size_replicate]
  rwa [h2] at h1
/-- a number is returned; nothing that was there has changed -/
def NumB (n : Int) (w : World) (e : Ending) (w' : World) : Prop := e = .returned (.int .i64 n) ∧ Below w.heap.size w w'
/-- what Check has in memory -/
structure CkI (w wr : World) (o : Int) (A : Option Addr) (c : Nat) (l : List Int) (i : Nat) : Prop where
  box : wr.heap[w.heap.size]? = some (.cells #[.int .i64 o, .slice A l.length c] 24 (0, 0))
  row : wr.rowIs (w.heap.size + 1) 66 4096 (sn l i)
  u : Below w.heap.size w wr
theorem box_alloc {w : World} (o : Obj) (q : Obj) : ((w.alloc o).alloc q).heap[w.heap.size]? = some o :=
  (Below.heap_alloc _ _ _ (by simp)).trans (heap_alloc_new w o)
set_option maxRecDepth 100000 in
set_option maxHeartbeats 4000000 in
theorem check_any {w : World} {A : Option Addr} (o : Int) (c : Nat) {l : List Int} (h : RdI w w.heap.size A l) (hl : l.length ≤ 9223372036854775807) :
    Calls Try.prog 16 #[.agg #[.int .i64 o, .slice A l.length c]] w (NumB (chkM o l) w) := by
  have HR := Lib.hid h
  have HB0 := Lib.hid (below_new w (.cells #[.int .i64 o, .slice A l.length c] 24))
  clear h
  by_cases ho : o < 0
  · have HC : Hid (chkM o l = 1) := Lib.hid (by unfold chkM; rw [if_pos ho])
    go_enter Try.func16, Try.ntmps16
    go_wp2_with fail
    go_ret
    exact ⟨ret_int HC.out.symm, HB0.out⟩
  by_cases ho2 : 4096 < o
  · have HC : Hid (chkM o l = 3) := Lib.hid (by unfold chkM; rw [if_neg ho, if_pos (.inl ho2)])
    go_enter Try.func16, Try.ntmps16
    go_wp2_with fail
    go_ret
    exact ⟨ret_int HC.out.symm, HB0.out⟩
  by_cases hl4 : 4096 < l.length
  · have HC : Hid (chkM o l = 3) := Lib.hid (by unfold chkM; rw [if_neg ho, if_pos (.inr hl4)])
    have hl5 : (4096 : Int) < (l.length : Int) := by omega
    go_enter Try.func16, Try.ntmps16
    go_wp2_with fail
    go_ret
    exact ⟨ret_int HC.out.symm, HB0.out⟩
  · have HC : Hid (chkM o l = chkW o [] l) := Lib.hid (by unfold chkM; rw [if_neg ho, if_neg (by omega)])
    have hl5 : (l.length : Int) ≤ 4096 := by omega
    obtain ⟨Z, hZ, hZn, hz⟩ := zero66'
    have H0 : Hid (CkI w ((w.alloc (.cells #[.int .i64 o, .slice A l.length c] 24)).alloc (.cells Z 66)) o A c l 0) := Lib.hid
      ⟨box_alloc _ _, by
        have := sn_start (w.alloc (.cells #[.int .i64 o, .slice A l.length c] 24)) hZ.out l
        rwa [show (w.alloc (.cells #[.int .i64 o, .slice A l.length c] 24)).heap.size = w.heap.size + 1 by simp] at this, HB0.out.alloc (by simp) _⟩
    clear HB0
    go_enter Try.func16, Try.ntmps16
    go_wp2_with fail
    clear hz hZ hZn
    go_loopw [21] (fun v wr => ∃ (i : Nat), i ≤ l.length ∧ v = .int .i64 i ∧ Hid (chkW o [] l = chkW o (l.take i) (l.drop i)) ∧ Hid (CkI w wr o A c l i)) (fun v _ => l.length - (intOf v).toNat)
    case atStart => exact ⟨0, Nat.zero_le _, rfl, Lib.hid rfl, H0⟩
    case round =>
      obtain ⟨i, hi, rfl, HX, HI⟩ := hrel
      clear H0
      by_cases hlt : i < l.length
      · obtain ⟨b, q, rfl, hb, hc⟩ := HR.out.below HI.out.u i hlt
        have hst := HX.out.trans (chkW_step hlt)
        have hbox := cell_of_row _ _ 0 _ 24 (0, 0) HI.out.box
        have hbox' : wr.cell? ⟨w.heap.size, 0, none⟩ = some (.int .i64 o) := hbox
        have HN := Lib.hid (fun e => (⟨HI.out.box, sn_none hlt e ▸ HI.out.row, HI.out.u⟩ : CkI w wr o (some ⟨b, q, none⟩) c l (i + 1)))
        have HT := Lib.hid (fun (k : Nat) (e : l[i] = k) => (⟨(Below.heap_setCell _ _ _ _ (by simp)).trans HI.out.box, sn_step HI.out.row hlt e, HI.out.u.setCell (by simp) _⟩ : CkI w (wr.setCell ⟨w.heap.size + 1, k, none⟩ (.bool true)) o (some ⟨b, q, none⟩) c l (i + 1)))
        obtain ⟨y, hy⟩ : ∃ y, l[i] = y := ⟨_, rfl⟩
        rw [hy] at hc hst HN HT
        clear hy hb hbox
        by_cases hn1 : y = -1
        · subst hn1
          rw [if_neg (by omega), if_neg (by omega)] at hst
          have HE := Lib.hid hst
          have HN2 := Lib.hid (HN.out rfl)
          clear hst HN HT
          go_wp2_with fail
          go_roundw
          case rel => exact ⟨i + 1, by omega, by go_num, HE, HN2⟩
          case measure => first | (simp [intOf]; done) | (simp [intOf]; omega)
        have hn3 : (y == -1) = false := by simpa using hn1
        by_cases hneg : y < 0
        · rw [if_pos (by omega)] at hst
          have HE := Lib.hid hst
          clear hst HN HT
          go_wp2_with fail
          go_ret
          exact ⟨ret_int (by rw [HC.out, HE.out]), HI.out.u⟩
        by_cases hbig : o ≤ y
        · rw [if_pos (.inr hbig)] at hst
          have HE := Lib.hid hst
          clear hst HN HT
          go_wp2_with fail
          go_ret
          exact ⟨ret_int (by rw [HC.out, HE.out]), HI.out.u⟩
        rw [if_neg (by omega)] at hst
        obtain ⟨k, rfl⟩ : ∃ k : Nat, y = k := ⟨y.toNat, by omega⟩
        have hk1 : k < 4096 := by omega
        have hcell := World.rowIs.cell HI.out.row hk1
        have hfr := World.rowIs.frozen HI.out.row k
        have HT2 := Lib.hid (HT.out k rfl)
        have HS := Lib.hid hst
        unfold sn at hcell
        clear hst HN HT
        by_cases hm : (k : Int) ∈ l.take i
        · have hs := HS.out
          rw [if_pos ⟨by omega, hm⟩] at hs
          have HE := Lib.hid hs
          rw [decide_eq_true hm] at hcell
          clear hs HS hm
          go_wp2_with fail
          go_ret
          exact ⟨ret_int (by rw [HC.out, HE.out]), HI.out.u⟩
        · have hs := HS.out
          rw [if_neg (fun h => hm h.2)] at hs
          have HE := Lib.hid hs
          rw [decide_eq_false hm] at hcell
          clear hs HS hm
          go_wp2_with fail
          go_roundw
          case rel => exact ⟨i + 1, by omega, by go_num, HE, HT2⟩
          case measure => first | (simp [intOf]; done) | (simp [intOf]; omega)
      · obtain rfl : i = l.length := by omega
        have hx := HX.out
        rw [List.drop_length] at hx
        have HE : Hid (chkM o l = 0) := Lib.hid (by rw [HC.out, hx]; rfl)
        clear hx
        go_wp2_with fail
        go_ret
        exact ⟨ret_int HE.out.symm, HI.out.u⟩
end Go.Proofs.Ytakgnpmfnechhaa
