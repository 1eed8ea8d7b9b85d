/- The walk of Carry, at strings. -/
import Derived.Test.YtakgnpmfnechhaaMadW
import Derived.Test.YtakgnpmfnechhaaChkW
namespace Go.Proofs.Ytakgnpmfnechhaa
open Go.RowKit

theorem info9 : (Try.prog.info? 9).map (fun i => (i.zero, i.size, i.bytes)) = some (some (.string ByteArray.empty), 1, 16) := by kernel_rfl
/-- strings in a row -/
def RdS (w : World) (B : Nat) (A : Option Addr) (zs : List ByteArray) : Prop :=
  ∀ k (h : k < zs.length), ∃ b o, A = some ⟨b, o, none⟩ ∧ b < B ∧ w.cell? ⟨b, o + k, none⟩ = some (.string zs[k])
theorem RdS.below {w w' : World} {B : Nat} {A : Option Addr} {zs : List ByteArray} (h : RdS w B A zs) (hb : Below B w w') : RdS w' B A zs := fun k hl => by
  obtain ⟨b, o, e, hl2, h1⟩ := h k hl
  exact ⟨b, o, e, hl2, (hb.cell (p := ⟨b, o + k, none⟩) hl2).trans h1⟩
structure SlS (w : World) (A : Option Addr) (c : Nat) (l : List ByteArray) : Prop where
  rd : RdS w w.heap.size A l
  le : l.length ≤ c
  max : c ≤ 9223372036854775807
def RowS (r : List ByteArray × Int) (w : World) (e : Ending) (w' : World) : Prop := ∃ A, e = .returned (.tuple #[.slice A r.1.length r.1.length, .int .i64 r.2]) ∧ SlS w' A r.1.length r.1 ∧ Below w.heap.size w w'
theorem rowS_err {f : Int} {w W : World} (hb : Below w.heap.size w W) : RowS ([], f) w (.returned (.tuple #[.slice none 0 0, .int .i64 f])) W := ⟨none, rfl, ⟨fun k h => absurd h (by simp), Nat.le_refl _, by show 0 ≤ _; omega⟩, hb⟩
def pickS (xs : List ByteArray) (x : Int) : ByteArray := if x = -1 then ByteArray.empty else xs.getD x.toNat ByteArray.empty
def carLS (l : List Int) (xs : List ByteArray) : List ByteArray := l.map (pickS xs)
theorem carL_lenS (l : List Int) (xs : List ByteArray) : (carLS l xs).length = l.length := by simp [carLS]
theorem pick_atS {xs : List ByteArray} {i : Nat} (h : i < xs.length) : pickS xs (i : Int) = xs[i] := by
  unfold pickS
  rw [if_neg (by omega), Int.toNat_natCast, List.getD_eq_getElem?_getD, List.getElem?_eq_getElem h]
  rfl

/-- the carried row, so far -/
def cFS (xs : List ByteArray) (l : List Int) (i : Nat) : Nat → Value := fun j => if j < i then Value.string (pickS xs (l.getD j 0)) else Value.string ByteArray.empty
theorem getD_inS {l : List Int} {i : Nat} (h : i < l.length) : l.getD i 0 = l[i] := by rw [List.getD_eq_getElem?_getD, List.getElem?_eq_getElem h]; rfl
theorem cF_noneS {xs : List ByteArray} {l : List Int} {i : Nat} (hi : i < l.length) (h : l[i] = -1) : cFS xs l (i + 1) = cFS xs l i := by
  funext j
  unfold cFS
  by_cases e : j = i
  · subst e
    rw [if_pos (by omega), if_neg (by omega), getD_inS hi, h]
    rfl
  · by_cases e2 : j < i
    · rw [if_pos e2, if_pos (by omega)]
    · rw [if_neg e2, if_neg (by omega)]
theorem cF_stepS {w : World} {b n : Nat} {xs : List ByteArray} {l : List Int} {i : Nat} (h : w.rowIs b 9 n (cFS xs l i)) (hi : i < l.length) {k : Nat} (hk : l[i] = k) (hx : k < xs.length) : (w.setCell ⟨b, i, none⟩ (Value.string xs[k])).rowIs b 9 n (cFS xs l (i + 1)) := by
  refine World.rowIs.congr (World.rowIs.set h i _) fun j _ => ?_
  unfold cFS
  by_cases e : j = i
  · subst e
    rw [if_pos rfl, if_pos (by omega), getD_inS hi, hk, pick_atS hx]
  · rw [if_neg e]
    by_cases e2 : j < i
    · rw [if_pos e2, if_pos (by omega)]
    · rw [if_neg e2, if_neg (by omega)]
theorem cF_startS (w : World) (n : Nat) (xs : List ByteArray) (l : List Int) : (w.alloc (.cells (madeCells #[Value.string ByteArray.empty] n) 9)).rowIs w.heap.size 9 n (cFS xs l 0) :=
  World.rowIs.congr (World.rowIs_made w (Value.string ByteArray.empty) n 9) fun j _ => by
    unfold cFS
    rw [if_neg (by omega)]
theorem cF_listS {w : World} {b : Nat} {xs : List ByteArray} {l : List Int} (h : w.rowIs b 9 l.length (cFS xs l l.length)) (hn : l.length ≤ 9223372036854775807) : SlS w (some ⟨b, 0, none⟩) l.length (carLS l xs) := by
  refine ⟨fun k hk => ?_, by rw [carL_lenS]; exact Nat.le_refl _, hn⟩
  have hk' : k < l.length := by rwa [carL_lenS] at hk
  refine ⟨b, 0, rfl, World.rowIs.lt h, ?_⟩
  rw [Nat.zero_add, World.rowIs.cell h hk']
  unfold cFS
  rw [if_pos hk', getD_inS hk']
  simp only [carLS, List.getElem_map]
def carMS (o : Int) (l : List Int) (xs : List ByteArray) : List ByteArray × Int := if chkM o l ≠ 0 then ([], chkM o l) else if (xs.length : Int) ≠ o then ([], 16) else (carLS l xs, 0)
structure CaIS (w V wr : World) (xs : List ByteArray) (l : List Int) (i : Nat) : Prop where
  row : wr.rowIs V.heap.size 9 l.length (cFS xs l i)
  u : Below V.heap.size V wr
  wv : Below w.heap.size w V
set_option maxHeartbeats 2000000 in
theorem carry_errS {w : World} {A B : Option Addr} {c d : Nat} {l : List Int} {xs : List ByteArray} (o : Int) (h : SlI w A c l) (_hx : SlS w B d xs) {p : Int} (hp : chkM o l = p) (h0 : p ≠ 0) :
    Calls Try.prog 32 #[.agg #[.int .i64 o, .slice A l.length c], .slice B xs.length d] w (RowS ([], p) w) := by
  have hm := Mv.new (o := o) h
  have K := check_any o c hm.sl.rd h.len
  rw [hp] at K
  have K := Lib.hid K
  have HU := Lib.hid (below_new w (.cells #[.int .i64 o, .slice A l.length c] 24))
  have hq1 : (p == 0) = false := by simpa using h0
  have hq2 : (p != 0) = true := by simpa using h0
  obtain ⟨a0, a1⟩ := hm.cells
  clear h _hx hm hp h0
  go_enter Try.func32, Try.ntmps32
  go_wp2_with fail
  refine K.out.mono ?_
  rintro e w1 ⟨rfl, hb⟩
  have HB := Lib.hid (HU.out.trans (hb.mono HU.out.size))
  clear K hb HU a0 a1
  go_wp2_with fail
  go_ret2
  exact rowS_err HB.out
set_option maxHeartbeats 2000000 in
theorem carry_lenS {w : World} {A B : Option Addr} {c d : Nat} {l : List Int} {xs : List ByteArray} (o : Int) (h : SlI w A c l) (_hx : SlS w B d xs) (hv : Vm o l) (hlen : (xs.length : Int) ≠ o) :
    Calls Try.prog 32 #[.agg #[.int .i64 o, .slice A l.length c], .slice B xs.length d] w (RowS ([], 16) w) := by
  have hm := Mv.new (o := o) h
  have K := check_any o c hm.sl.rd h.len
  rw [chkM_zero.2 hv] at K
  have K := Lib.hid K
  have HU := Lib.hid (below_new w (.cells #[.int .i64 o, .slice A l.length c] 24))
  have HM := Lib.hid hm
  obtain ⟨q, hq⟩ : ∃ q, xs.length = q := ⟨_, rfl⟩
  rw [hq] at hlen ⊢
  have hq1 : ((q : Int) == o) = false := by simpa using hlen
  have hq2 : ((q : Int) != o) = true := by simpa using hlen
  obtain ⟨a0, a1⟩ := hm.cells
  clear h _hx hm hv hq hlen
  go_enter Try.func32, Try.ntmps32
  go_wp2_with fail
  refine K.out.mono ?_
  rintro e w1 ⟨rfl, hb⟩
  have HB := Lib.hid (HU.out.trans (hb.mono HU.out.size))
  obtain ⟨b0, b1⟩ := (HM.out.next hb).cells
  clear K hb HU a0 a1 HM
  go_wp2_with fail
  go_ret2
  exact rowS_err HB.out
set_option maxRecDepth 100000 in
set_option maxHeartbeats 4000000 in
theorem carry_okS {w : World} {A B : Option Addr} {c d n : Nat} {l : List Int} {xs : List ByteArray} (h : SlI w A c l) (hx : SlS w B d xs) (hv : Vm n l) (hlen : xs.length = n) :
    Calls Try.prog 32 #[.agg #[.int .i64 n, .slice A l.length c], .slice B xs.length d] w (RowS (carLS l xs, 0) w) := by
  subst hlen
  have hm := Mv.new (o := xs.length) h
  have K := check_any xs.length c hm.sl.rd h.len
  rw [chkM_zero.2 hv] at K
  have K := Lib.hid K
  have HU := Lib.hid (below_new w (.cells #[.int .i64 xs.length, .slice A l.length c] 24))
  have HM := Lib.hid hm
  have HV := Lib.hid hv
  have HX := Lib.hid hx.rd
  have hl : l.length ≤ 4096 := hv.len
  have hxl : xs.length ≤ 4096 := by have := hv.o1; omega
  have hle := hx.le
  have hmx := hx.max
  have HSl := Lib.hid h.rd
  have hmk := run_make_row' (P := Try.prog) 61 9 (.string ByteArray.empty) 16 Try.underlying61 info9 rfl .i64 .i64 l.length (by omega) (by omega)
  obtain ⟨a0, a1⟩ := hm.cells
  clear h hx hm hv
  go_enter Try.func32, Try.ntmps32
  go_wp2_with fail
  refine K.out.mono ?_
  rintro e w1 ⟨rfl, hb⟩
  have hm1 := HM.out.next hb
  obtain ⟨b0, b1⟩ := hm1.cells
  have hu1 := HU.out.trans (hb.mono HU.out.size)
  have H0 : Hid (CaIS w w1 (w1.alloc (.cells (madeCells #[Value.string ByteArray.empty] l.length) 9)) xs l 0) := Lib.hid ⟨cF_startS w1 l.length xs l, below_new _ _, hu1⟩
  have hm2 := hm1.next (below_new w1 (.cells (madeCells #[Value.string ByteArray.empty] l.length) 9))
  obtain ⟨c0, c1⟩ := hm2.cells
  clear K hb HU a0 a1 HM hm1 hm2 hu1
  go_wp2_with fail
  clear hmk b0 b1 c0 c1
  go_loopw [27] (fun v wr => ∃ i : Nat, i ≤ l.length ∧ v = .int .i64 i ∧ Hid (CaIS w w1 wr xs l i)) (fun v _ => l.length - (intOf v).toNat)
  case atStart => exact ⟨0, Nat.zero_le _, rfl, H0⟩
  case round =>
    obtain ⟨i, hi, rfl, HI⟩ := hrel
    clear H0
    have hub := HI.out.wv.trans (HI.out.u.mono HI.out.wv.size)
    by_cases hlt : i < l.length
    · obtain ⟨b, q, rfl, hb, hc⟩ := HSl.out.below hub i hlt
      have hrg := HV.out.rng _ (List.getElem_mem hlt)
      have HN := Lib.hid (fun e => (⟨cF_noneS hlt e ▸ HI.out.row, HI.out.u, HI.out.wv⟩ : CaIS w w1 wr xs l (i + 1)))
      have HT := Lib.hid (fun (k : Nat) (e : l[i] = k) (hk : k < xs.length) => (⟨cF_stepS HI.out.row hlt e hk, HI.out.u.setCell (Nat.le_refl _) _, HI.out.wv⟩ : CaIS w w1 (wr.setCell ⟨w1.heap.size, i, none⟩ (Value.string xs[k])) xs l (i + 1)))
      obtain ⟨y, hy⟩ : ∃ y, l[i] = y := ⟨_, rfl⟩
      rw [hy] at hc hrg HN HT
      clear hy hb
      by_cases hn1 : y = -1
      · subst hn1
        have HN2 := Lib.hid (HN.out rfl)
        clear HN HT hub
        go_wp2_with fail
        go_roundw
        case rel => exact ⟨i + 1, by omega, by go_num, HN2⟩
        case measure => first | (simp [intOf]; done) | (simp [intOf]; omega)
      · obtain ⟨k, rfl⟩ : ∃ k : Nat, y = k := ⟨y.toNat, by omega⟩
        have hk : k < xs.length := by omega
        have hn3 : ((k : Int) == -1) = false := by simp
        have HT2 := Lib.hid (HT.out k rfl hk)
        obtain ⟨b2, q2, rfl, hb2, hc2⟩ := HX.out.below hub k hk
        generalize xs[k] = x at *
        have hcell := World.rowIs.cell HI.out.row hlt
        have hfr := World.rowIs.frozen HI.out.row i
        generalize cFS xs l i i = z at hcell
        clear HN HT hub hb2
        go_wp2_with fail
        go_roundw
        case rel => exact ⟨i + 1, by omega, by go_num, HT2⟩
        case measure => first | (simp [intOf]; done) | (simp [intOf]; omega)
    · have hil : i = l.length := by omega
      replace HI : Hid (CaIS w w1 wr xs l l.length) := hil ▸ HI
      have HF := Lib.hid (show RowS (carLS l xs, 0) w (.returned (.tuple #[.slice (some ⟨w1.heap.size, 0, none⟩) l.length l.length, .int .i64 0])) wr from ⟨some ⟨w1.heap.size, 0, none⟩, by simp only [carL_lenS], by
        have := cF_listS HI.out.row (by omega)
        show SlS _ _ (carLS l xs).length (carLS l xs)
        rw [carL_lenS]
        exact this, hub⟩)
      clear hil HI hub
      go_wp2_with fail
      go_ret2
      exact HF.out
theorem carry_anyS {w : World} {A B : Option Addr} {c d : Nat} {l : List Int} {xs : List ByteArray} (o : Int) (h : SlI w A c l) (hx : SlS w B d xs) :
    Calls Try.prog 32 #[.agg #[.int .i64 o, .slice A l.length c], .slice B xs.length d] w (RowS (carMS o l xs) w) := by
  unfold carMS
  by_cases h0 : chkM o l = 0
  · rw [if_neg (by omega)]
    have hv := chkM_zero.1 h0
    obtain ⟨n, rfl⟩ : ∃ n : Nat, o = n := ⟨o.toNat, by have := hv.o0; omega⟩
    by_cases h1 : (xs.length : Int) = n
    · rw [if_neg (by omega)]
      exact carry_okS h hx hv (by omega)
    · rw [if_pos h1]
      exact carry_lenS n h hx hv h1
  · rw [if_pos h0]
    exact carry_errS o h hx rfl h0
end Go.Proofs.Ytakgnpmfnechhaa
