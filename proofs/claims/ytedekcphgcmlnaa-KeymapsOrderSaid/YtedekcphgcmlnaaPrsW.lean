/- The walk of O's Pairs. -/
import Derived.Test.YtedekcphgcmlnaaOfW
namespace Go.Proofs.Ytedekcphgcmlnaa
open Go.RowKit

/-- the pairs after i steps -/
structure PrI (V wr : World) (A : Option Addr) (c : Nat) (L : PL) : Prop where
  sl : SlR wr A c L
  u : Below V.heap.size V wr
set_option maxRecDepth 100000 in
set_option maxHeartbeats 8000000 in
theorem pairs_any {w : World} {A : Option Addr} {c : Nat} {xs : List St} (h : SlT w A c xs) :
    Calls Try.prog 19 #[.agg #[.slice A xs.length c]] w fun e w' => ∃ A' c', e = .returned (.slice A' (prsT xs (min xs.length 80)).length c') ∧ SlR w' A' c' (prsT xs (min xs.length 80)) ∧ Below w.heap.size w w' := by
  have hb0 := below_alloc w (.cells #[.slice A xs.length c] 45)
  have HX := Lib.hid (h.below hb0)
  have hle := h.le
  have hmx := h.max
  obtain ⟨V, hV⟩ : ∃ V : World, w.alloc (.cells #[.slice A xs.length c] 45) = V := ⟨_, rfl⟩
  obtain ⟨x, hx⟩ : ∃ x : Nat, w.heap.size = x := ⟨_, rfl⟩
  have hvx : V.heap[x]? = some (.cells #[.slice A xs.length c] 45 (0, 0)) := by rw [← hV]; exact new_at _ hx
  rw [hV] at hb0 HX
  have HV := Lib.hid hvx
  have HB := Lib.hid hb0
  have H0 : Hid (PrI V V none 0 (prsT xs 0)) := Lib.hid ⟨SlR.none V, Below.refl _ _⟩
  clear h hb0 hvx
  go_enter Try.func19, Try.ntmps19
  go_upto_region 1 with fail
  clear hV hx
  go_wp2_with fail
  go_loopw [3, 4] (fun o v wr => ∃ (i : Nat) (A1 : Option Addr) (c1 : Nat), o = .slice A1 (prsT xs i).length c1 ∧ v = .int .i64 i ∧ i ≤ xs.length ∧ i ≤ 80 ∧ Hid (PrI V wr A1 c1 (prsT xs i))) (fun _ v _ => 80 - (intOf v).toNat)
  case atStart => exact ⟨0, none, 0, rfl, rfl, Nat.zero_le _, Nat.zero_le _, H0⟩
  case round =>
    clear H0
    obtain ⟨i, A1, c1, rfl, rfl, hi1, hi2, HI⟩ := hrel
    have x0 : wr.cell? ⟨x, 0, none⟩ = some (.slice A xs.length c) := cell_of_row _ _ 0 _ 45 (0, 0) ((HI.out.u.block x (heap_lt HV.out)).trans HV.out)
    by_cases hlt : i < xs.length ∧ i < 80
    · obtain ⟨h1, h2⟩ := hlt
      have h3 : decide ((i : Int) < (xs.length : Int)) = true := by simp; omega
      have h4 : decide ((i : Int) < 80) = true := by simp; omega
      obtain ⟨bb, o, rfl, hbb, c0, d1, d2⟩ := (HX.out.below HI.out.u).rd i h1
      have hst : prsT xs (i + 1) = stepL (prsT xs i) xs[i] := prsT_succ h1
      have hln := prsT_len xs i
      have D := refDrop_any HI.out.sl xs[i].key (by omega)
      have P := refPut_any (w := wr.drew) (HI.out.sl.below (below_drewN wr 1)) xs[i].key xs[i].v (by omega)
      obtain ⟨k, hk⟩ : ∃ k, xs[i].key = k := ⟨_, rfl⟩
      obtain ⟨v, hv⟩ : ∃ v, xs[i].v = v := ⟨_, rfl⟩
      obtain ⟨f, hf⟩ : ∃ f, xs[i].drop = f := ⟨_, rfl⟩
      unfold stepL at hst
      rw [hf, hk, hv] at hst
      rw [hk] at c0 D P
      rw [hv] at d1 P
      rw [hf] at d2
      have hxl : x < wr.heap.size := Nat.lt_of_lt_of_le (heap_lt HV.out) HI.out.u.size
      clear hk hv hf hln
      cases f with
      | true =>
        have HS := Lib.hid (show prsT xs (i + 1) = (dropL (prsT xs i) k).1 from hst)
        have HD := Lib.hid D
        clear hst D P
        go_wp2_with fail
        refine HD.out.mono ?_
        rintro e W2 ⟨A2, c2, rfl, hs2, hb2, _⟩
        have HN : Hid (PrI V W2 A2 c2 (prsT xs (i + 1))) := Lib.hid (by rw [HS.out]; exact ⟨hs2, HI.out.u.trans (hb2.mono HI.out.u.size)⟩)
        obtain ⟨n2, hn2⟩ : ∃ n2, (dropL (prsT xs i) k).1.length = n2 := ⟨_, rfl⟩
        have HN2 : Hid (n2 = (prsT xs (i + 1)).length) := Lib.hid (by rw [HS.out]; exact hn2.symm)
        rw [hn2]
        clear hs2 hb2 HD hn2
        go_wp2_with fail
        go_roundw
        case rel => exact ⟨i + 1, A2, c2, by rw [HN2.out], by rfl, by omega, by omega, HN⟩
        case measure => simp [intOf]; omega
      | false =>
        have HS := Lib.hid (show prsT xs (i + 1) = (putL (prsT xs i) k v).1 from hst)
        have HP := Lib.hid P
        clear hst D P
        go_upto_region 7 with fail
        go_region_held3 (fun U => U.cell? ⟨x, 0, none⟩ = some (.slice (some ⟨bb, o, none⟩) xs.length c) ∧ U.cell? ⟨bb, o + i * 3, none⟩ = some (.int .u64 k) ∧ U.cell? ⟨bb, o + i * 3 + 1, none⟩ = some (.int .i64 v))
          (first
            | exact ⟨x0, c0, d1⟩
            | exact ⟨(hb2.cell (p := ⟨x, _, none⟩) hxl).trans x0, (hb2.cell (p := ⟨bb, _, none⟩) hbb).trans c0, (hb2.cell (p := ⟨bb, _, none⟩) hbb).trans d1⟩
            | fail)
          (first | (go_at_call 13; (with_reducible refine HP.out.mono ?_); rintro e W2 ⟨A2, c2, rfl, hs2, hb2, _⟩) | fail)
        all_goals
          have HN : Hid (PrI V W2 A2 c2 (prsT xs (i + 1))) := Lib.hid (by rw [HS.out]; exact ⟨hs2, HI.out.u.trans (Below.mono (show Below wr.heap.size wr W2 from ⟨hb2.os, hb2.tape, hb2.output, hb2.size, hb2.block⟩) HI.out.u.size)⟩)
          obtain ⟨n2, hn2⟩ : ∃ n2, (putL (prsT xs i) k v).1.length = n2 := ⟨_, rfl⟩
          have HN2 : Hid (n2 = (prsT xs (i + 1)).length) := Lib.hid (by rw [HS.out]; exact hn2.symm)
          rw [hn2]
          clear hs2 hb2 HP hn2
          go_wp2_with fail
          go_roundw
          case rel => exact ⟨i + 1, A2, c2, by rw [HN2.out], by rfl, by omega, by omega, HN⟩
          case measure => simp [intOf]; omega
    · have hm : i = min xs.length 80 := by omega
      have HN : Hid (PrI V wr A1 c1 (prsT xs (min xs.length 80))) := hm ▸ HI
      have HM := Lib.hid hm
      by_cases h1 : i < xs.length
      · have h3 : decide ((i : Int) < (xs.length : Int)) = true := by simp; omega
        have h4 : decide ((i : Int) < 80) = false := by simp; omega
        clear hm
        go_wp2_with fail
        go_ret
        exact ⟨A1, c1, by rw [← HM.out]; rfl, HN.out.sl, HB.out.trans (HN.out.u.mono HB.out.size)⟩
      · have h3 : decide ((i : Int) < (xs.length : Int)) = false := by simp; omega
        clear hm
        go_wp2_with fail
        go_ret
        exact ⟨A1, c1, by rw [← HM.out]; rfl, HN.out.sl, HB.out.trans (HN.out.u.mono HB.out.size)⟩
end Go.Proofs.Ytedekcphgcmlnaa
