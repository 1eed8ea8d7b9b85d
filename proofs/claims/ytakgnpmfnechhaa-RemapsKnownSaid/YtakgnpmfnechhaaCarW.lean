/- The walk of Carry, at ints. -/
import Derived.Test.YtakgnpmfnechhaaMadW
import Derived.Test.YtakgnpmfnechhaaChkW
namespace Go.Proofs.Ytakgnpmfnechhaa
open Go.RowKit

/-- the carried row, so far -/
def cF (xs : List Int) (l : List Int) (i : Nat) : Nat → Value := fun j => if j < i then Value.int .i64 (pick xs (l.getD j 0)) else Value.int .i64 0
theorem getD_in {l : List Int} {i : Nat} (h : i < l.length) : l.getD i 0 = l[i] := by rw [List.getD_eq_getElem?_getD, List.getElem?_eq_getElem h]; rfl
theorem cF_none {xs : List Int} {l : List Int} {i : Nat} (hi : i < l.length) (h : l[i] = -1) : cF xs l (i + 1) = cF xs l i := by
  funext j
  unfold cF
  by_cases e : j = i
  · subst e
    rw [if_pos (by omega), if_neg (by omega), getD_in hi, h]
    rfl
  · by_cases e2 : j < i
    · rw [if_pos e2, if_pos (by omega)]
    · rw [if_neg e2, if_neg (by omega)]
theorem cF_step {w : World} {b n : Nat} {xs : List Int} {l : List Int} {i : Nat} (h : w.rowIs b 3 n (cF xs l i)) (hi : i < l.length) {k : Nat} (hk : l[i] = k) (hx : k < xs.length) : (w.setCell ⟨b, i, none⟩ (Value.int .i64 xs[k])).rowIs b 3 n (cF xs l (i + 1)) := by
  refine World.rowIs.congr (World.rowIs.set h i _) fun j _ => ?_
  unfold cF
  by_cases e : j = i
  · subst e
    rw [if_pos rfl, if_pos (by omega), getD_in hi, hk, pick_at hx]
  · rw [if_neg e]
    by_cases e2 : j < i
    · rw [if_pos e2, if_pos (by omega)]
    · rw [if_neg e2, if_neg (by omega)]
theorem cF_start (w : World) (n : Nat) (xs : List Int) (l : List Int) : (w.alloc (.cells (madeCells #[Value.int .i64 0] n) 3)).rowIs w.heap.size 3 n (cF xs l 0) :=
  World.rowIs.congr (World.rowIs_made w (Value.int .i64 0) n 3) fun j _ => by
    unfold cF
    rw [if_neg (by omega)]
theorem cF_list {w : World} {b : Nat} {xs : List Int} {l : List Int} (h : w.rowIs b 3 l.length (cF xs l l.length)) (hn : l.length ≤ 9223372036854775807) : SlI w (some ⟨b, 0, none⟩) l.length (carL l xs) := by
  refine ⟨fun k hk => ?_, by rw [carL_len]; exact Nat.le_refl _, hn, fun h => by cases h⟩
  have hk' : k < l.length := by rwa [carL_len] at hk
  refine ⟨b, 0, rfl, World.rowIs.lt h, ?_⟩
  rw [Nat.zero_add, World.rowIs.cell h hk']
  unfold cF
  rw [if_pos hk', getD_in hk']
  simp only [carL, List.getElem_map]
def carM (o : Int) (l : List Int) (xs : List Int) : List Int × Int := if chkM o l ≠ 0 then ([], chkM o l) else if (xs.length : Int) ≠ o then ([], 16) else (carL l xs, 0)
structure CaI (w V wr : World) (xs : List Int) (l : List Int) (i : Nat) : Prop where
  row : wr.rowIs V.heap.size 3 l.length (cF xs l i)
  u : Below V.heap.size V wr
  wv : Below w.heap.size w V
set_option maxHeartbeats 2000000 in
theorem carry_err {w : World} {A B : Option Addr} {c d : Nat} {l : List Int} {xs : List Int} (o : Int) (h : SlI w A c l) (_hx : SlI w B d xs) {p : Int} (hp : chkM o l = p) (h0 : p ≠ 0) :
    Calls Try.prog 17 #[.agg #[.int .i64 o, .slice A l.length c], .slice B xs.length d] w (RowX ([], p) w) := by
  have hm := Mv.new (o := o) h
  have K := check_any o c hm.sl.rd h.len
  rw [hp] at K
  have K := Lib.hid K
  have HU := Lib.hid (below_new w (.cells #[.int .i64 o, .slice A l.length c] 24))
  have hq1 : (p == 0) = false := by simpa using h0
  have hq2 : (p != 0) = true := by simpa using h0
  obtain ⟨a0, a1⟩ := hm.cells
  clear h _hx hm hp h0
  go_enter Try.func17, Try.ntmps17
  go_wp2_with fail
  refine K.out.mono ?_
  rintro e w1 ⟨rfl, hb⟩
  have HB := Lib.hid (HU.out.trans (hb.mono HU.out.size))
  clear K hb HU a0 a1
  go_wp2_with fail
  go_ret2
  exact rowX_err HB.out
set_option maxHeartbeats 2000000 in
theorem carry_len {w : World} {A B : Option Addr} {c d : Nat} {l : List Int} {xs : List Int} (o : Int) (h : SlI w A c l) (_hx : SlI w B d xs) (hv : Vm o l) (hlen : (xs.length : Int) ≠ o) :
    Calls Try.prog 17 #[.agg #[.int .i64 o, .slice A l.length c], .slice B xs.length d] w (RowX ([], 16) w) := by
  have hm := Mv.new (o := o) h
  have K := check_any o c hm.sl.rd h.len
  rw [chkM_zero.2 hv] at K
  have K := Lib.hid K
  have HU := Lib.hid (below_new w (.cells #[.int .i64 o, .slice A l.length c] 24))
  have HM := Lib.hid hm
  obtain ⟨q, hq⟩ : ∃ q, xs.length = q := ⟨_, rfl⟩
  rw [hq] at hlen ⊢
  have hq1 : ((q : Int) == o) = false := by simpa using hlen
  have hq2 : ((q : Int) != o) = true := by simpa using hlen
  obtain ⟨a0, a1⟩ := hm.cells
  clear h _hx hm hv hq hlen
  go_enter Try.func17, Try.ntmps17
  go_wp2_with fail
  refine K.out.mono ?_
  rintro e w1 ⟨rfl, hb⟩
  have HB := Lib.hid (HU.out.trans (hb.mono HU.out.size))
  obtain ⟨b0, b1⟩ := (HM.out.next hb).cells
  clear K hb HU a0 a1 HM
  go_wp2_with fail
  go_ret2
  exact rowX_err HB.out
set_option maxRecDepth 100000 in
set_option maxHeartbeats 4000000 in
theorem carry_ok {w : World} {A B : Option Addr} {c d n : Nat} {l : List Int} {xs : List Int} (h : SlI w A c l) (hx : SlI w B d xs) (hv : Vm n l) (hlen : xs.length = n) :
    Calls Try.prog 17 #[.agg #[.int .i64 n, .slice A l.length c], .slice B xs.length d] w (RowX (carL l xs, 0) w) := by
  subst hlen
  have hm := Mv.new (o := xs.length) h
  have K := check_any xs.length c hm.sl.rd h.len
  rw [chkM_zero.2 hv] at K
  have K := Lib.hid K
  have HU := Lib.hid (below_new w (.cells #[.int .i64 xs.length, .slice A l.length c] 24))
  have HM := Lib.hid hm
  have HV := Lib.hid hv
  have HX := Lib.hid hx.rd
  have hl : l.length ≤ 4096 := hv.len
  have hxl : xs.length ≤ 4096 := by have := hv.o1; omega
  have hle := hx.le
  have hmx := hx.max
  have HSl := Lib.hid h.rd
  have hmk := make_ints l.length l.length l.length l.length rfl rfl (Nat.le_refl _) (by omega)
  obtain ⟨a0, a1⟩ := hm.cells
  clear h hx hm hv
  go_enter Try.func17, Try.ntmps17
  go_wp2_with fail
  refine K.out.mono ?_
  rintro e w1 ⟨rfl, hb⟩
  have hm1 := HM.out.next hb
  obtain ⟨b0, b1⟩ := hm1.cells
  have hu1 := HU.out.trans (hb.mono HU.out.size)
  have H0 : Hid (CaI w w1 (w1.alloc (.cells (madeCells #[Value.int .i64 0] l.length) 3)) xs l 0) := Lib.hid ⟨cF_start w1 l.length xs l, below_new _ _, hu1⟩
  have hm2 := hm1.next (below_new w1 (.cells (madeCells #[Value.int .i64 0] l.length) 3))
  obtain ⟨c0, c1⟩ := hm2.cells
  clear K hb HU a0 a1 HM hm1 hm2 hu1
  go_wp2_with fail
  clear hmk b0 b1 c0 c1
  go_loopw [27] (fun v wr => ∃ i : Nat, i ≤ l.length ∧ v = .int .i64 i ∧ Hid (CaI w w1 wr xs l i)) (fun v _ => l.length - (intOf v).toNat)
  case atStart => exact ⟨0, Nat.zero_le _, rfl, H0⟩
  case round =>
    obtain ⟨i, hi, rfl, HI⟩ := hrel
    clear H0
    have hub := HI.out.wv.trans (HI.out.u.mono HI.out.wv.size)
    by_cases hlt : i < l.length
    · obtain ⟨b, q, rfl, hb, hc⟩ := HSl.out.below hub i hlt
      have hrg := HV.out.rng _ (List.getElem_mem hlt)
      have HN := Lib.hid (fun e => (⟨cF_none hlt e ▸ HI.out.row, HI.out.u, HI.out.wv⟩ : CaI w w1 wr xs l (i + 1)))
      have HT := Lib.hid (fun (k : Nat) (e : l[i] = k) (hk : k < xs.length) => (⟨cF_step HI.out.row hlt e hk, HI.out.u.setCell (Nat.le_refl _) _, HI.out.wv⟩ : CaI w w1 (wr.setCell ⟨w1.heap.size, i, none⟩ (Value.int .i64 xs[k])) xs l (i + 1)))
      obtain ⟨y, hy⟩ : ∃ y, l[i] = y := ⟨_, rfl⟩
      rw [hy] at hc hrg HN HT
      clear hy hb
      by_cases hn1 : y = -1
      · subst hn1
        have HN2 := Lib.hid (HN.out rfl)
        clear HN HT hub
        go_wp2_with fail
        go_roundw
        case rel => exact ⟨i + 1, by omega, by go_num, HN2⟩
        case measure => first | (simp [intOf]; done) | (simp [intOf]; omega)
      · obtain ⟨k, rfl⟩ : ∃ k : Nat, y = k := ⟨y.toNat, by omega⟩
        have hk : k < xs.length := by omega
        have hn3 : ((k : Int) == -1) = false := by simp
        have HT2 := Lib.hid (HT.out k rfl hk)
        obtain ⟨b2, q2, rfl, hb2, hc2⟩ := HX.out.below hub k hk
        generalize xs[k] = x at *
        have hcell := World.rowIs.cell HI.out.row hlt
        have hfr := World.rowIs.frozen HI.out.row i
        generalize cF xs l i i = z at hcell
        clear HN HT hub hb2
        go_wp2_with fail
        go_roundw
        case rel => exact ⟨i + 1, by omega, by go_num, HT2⟩
        case measure => first | (simp [intOf]; done) | (simp [intOf]; omega)
    · have hil : i = l.length := by omega
      replace HI : Hid (CaI w w1 wr xs l l.length) := hil ▸ HI
      have HF := Lib.hid (show RowX (carL l xs, 0) w (.returned (.tuple #[.slice (some ⟨w1.heap.size, 0, none⟩) l.length l.length, .int .i64 0])) wr from ⟨some ⟨w1.heap.size, 0, none⟩, by simp only [carL_len], by
        have := cF_list HI.out.row (by omega)
        show SlI _ _ (carL l xs).length (carL l xs)
        rw [carL_len]
        exact this, hub⟩)
      clear hil HI hub
      go_wp2_with fail
      go_ret2
      exact HF.out
theorem carry_any {w : World} {A B : Option Addr} {c d : Nat} {l : List Int} {xs : List Int} (o : Int) (h : SlI w A c l) (hx : SlI w B d xs) :
    Calls Try.prog 17 #[.agg #[.int .i64 o, .slice A l.length c], .slice B xs.length d] w (RowX (carM o l xs) w) := by
  unfold carM
  by_cases h0 : chkM o l = 0
  · rw [if_neg (by omega)]
    have hv := chkM_zero.1 h0
    obtain ⟨n, rfl⟩ : ∃ n : Nat, o = n := ⟨o.toNat, by have := hv.o0; omega⟩
    by_cases h1 : (xs.length : Int) = n
    · rw [if_neg (by omega)]
      exact carry_ok h hx hv (by omega)
    · rw [if_pos h1]
      exact carry_len n h hx hv h1
  · rw [if_pos h0]
    exact carry_err o h hx rfl h0
end Go.Proofs.Ytakgnpmfnechhaa
