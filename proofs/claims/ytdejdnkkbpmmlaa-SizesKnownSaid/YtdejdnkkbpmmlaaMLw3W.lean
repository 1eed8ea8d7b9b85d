/- The walk of the law SizesAt. -/
import Derived.Test.YtdejdnkkbpmmlaaMRefA
namespace Go.Proofs.Ytdejdnkkbpmmlaa
open Go.RowKit

/-- the top, the size and the knownness of a row -/
theorem three_at (r : List (Int × Bool)) (i : Int) (a f s fs fk : Int) (k : Bool) (h1 : topR r i = (a, f)) (h2 : sizeR r i = (s, fs)) (h3 : knownR r i = (k, fk)) :
    (0 ≤ i ∧ i < r.length ∧ f = 0 ∧ fs = 0 ∧ fk = 0) ∨ (i = r.length ∧ f = 0 ∧ fs = 4 ∧ s = 0 ∧ fk = 4 ∧ k = false) ∨ ((i < 0 ∨ (r.length : Int) < i) ∧ f = 4 ∧ a = 0 ∧ fs = 4 ∧ s = 0 ∧ fk = 4 ∧ k = false) := by
  unfold topR at h1
  unfold sizeR at h2
  unfold knownR at h3
  by_cases hb : i < 0 ∨ (r.length : Int) < i
  · rw [if_pos hb] at h1
    rw [if_pos (by omega)] at h2 h3
    cases h1; cases h2; cases h3
    exact Or.inr (Or.inr ⟨hb, rfl, rfl, rfl, rfl, rfl, rfl⟩)
  · rw [if_neg hb] at h1
    cases h1
    by_cases he : i = r.length
    · rw [if_pos (by omega)] at h2 h3
      cases h2; cases h3
      exact Or.inr (Or.inl ⟨he, rfl, rfl, rfl, rfl, rfl⟩)
    · rw [if_neg (by omega)] at h2 h3
      cases h2; cases h3
      exact Or.inl ⟨by omega, by omega, rfl, rfl, rfl⟩
theorem top_nat {w : World} {r : List (Int × Bool)} {t : T} {p A : Option Addr} {c : Nat} {xs : List S.Sp} (h : Ix w r t p A c xs) {j : Nat} (hj : j ≤ r.length) :
    Calls Try.prog 11 #[.agg #[.int .i64 t.count, .int .i64 t.total, .int .i64 t.depth, .pointer p, .slice A xs.length c], .int .i64 j] w fun e w' => e = .returned (.tuple #[.int .i64 (pre (sz r) j), .int .i64 0]) ∧ Below w.heap.size w w' := by
  have := top_any h (j : Int) (by have := h.vr.len; omega)
  rw [show topR r (j : Int) = (pre (sz r) j, 0) from by unfold topR; rw [if_neg (by omega)]; rfl] at this
  exact this

set_option maxRecDepth 100000 in
set_option maxHeartbeats 8000000 in
theorem law3_any (A0 : Option Addr) (c0 : Nat) (us : List Nat) (gr : Bool) (i x : Int) (w : World) (hr : RdU w w.heap.size A0 us) (hlc : us.length ≤ c0) (hm : c0 ≤ 9223372036854775807) (hi : i ≤ 9223372036854775807) :
    Calls Try.prog 3 #[.agg #[.slice A0 us.length c0, .bool gr], .int .i64 i, .int .i64 x] w fun e w' => e = .returned (.bool true) ∧ Below w.heap.size w w' := by
  have hb0 := below_new w (.cells #[.slice A0 us.length c0, .bool gr] 24)
  have hu1 : RdU (w.alloc (.cells #[.slice A0 us.length c0, .bool gr] 24)) (w.alloc (.cells #[.slice A0 us.length c0, .bool gr] 24)).heap.size A0 us := fun k hk => by
    obtain ⟨b, o, e, h1, h2, h3⟩ := hr.below hb0 k hk
    exact ⟨b, o, e, Nat.lt_of_lt_of_le h1 hb0.size, h2, h3⟩
  have HRW := Lib.hid (rows_loop A0 c0 us gr _ hu1 hlc hm)
  have HOF := Lib.hid (show ∀ U, Below (w.alloc (.cells #[.slice A0 us.length c0, .bool gr] 24)).heap.size (w.alloc (.cells #[.slice A0 us.length c0, .bool gr] 24)) U → Calls Try.prog 9 #[.agg #[.slice A0 us.length c0, .bool gr]] U _ from fun U kk => of_loop A0 c0 us gr U (fun k hk => by
    obtain ⟨b, o, e, h1, h2, h3⟩ := hu1.below kk k hk
    exact ⟨b, o, e, Nat.lt_of_lt_of_le h1 kk.size, h2, h3⟩) hlc hm)
  have hh := heap_alloc_new w (.cells #[.slice A0 us.length c0, .bool gr] 24)
  have HH := Lib.hid hh
  have HB := Lib.hid hb0
  have HVR := Lib.hid (rof_vr us gr)
  have HLN := Lib.hid (rof_vr us gr).len
  have y0 := cell_of_row _ w.heap.size 0 _ 24 (0, 0) hh
  have y1 := cell_of_row _ w.heap.size 1 _ 24 (0, 0) hh
  clear hr hb0 hu1 hlc hm hh
  generalize rof us gr = r at *
  go_enter Try.func3, Try.ntmps3
  go_wp2_with fail
  refine HRW.out.mono ?_
  rintro e w1 ⟨RA, rc, rfl, hsl, kk⟩
  have hh := keep_heap kk HH.out
  have HB1 := Lib.hid (HB.out.trans (kk.mono HB.out.size))
  have HSL := Lib.hid hsl
  have HO := Lib.hid (HOF.out _ kk)
  clear HRW HOF y0 y1 kk hsl HH HB
  have y0 := cell_of_row _ w.heap.size 0 _ 24 (0, 0) hh
  have y1 := cell_of_row _ w.heap.size 1 _ 24 (0, 0) hh
  clear hh
  go_wp2_with fail
  refine HO.out.mono ?_
  rintro e w2 ⟨t, p, A, c, xs, rfl, hix, kk⟩
  have M2 := Lib.hid (show LI w (w2.alloc (.cells #[.int .i64 t.count, .int .i64 t.total, .int .i64 t.depth, .pointer p, .slice A xs.length c] 32)) w2.heap.size RA r t p A c xs from ⟨Vx.new hix (HB1.out.trans (kk.mono HB1.out.size)), (HSL.out.below kk).rd.next (below_new _ _)⟩)
  clear hix kk HO HSL HB1 y0 y1
  go_upto_region 3 with fail
  obtain ⟨g, hg1⟩ : ∃ g, w2.heap.size = g := ⟨_, rfl⟩
  obtain ⟨V2, hV⟩ : ∃ V : World, w2.alloc (.cells #[.int .i64 t.count, .int .i64 t.total, .int .i64 t.depth, .pointer p, .slice A xs.length c] 32) = V := ⟨_, rfl⟩
  rw [hV, hg1] at M2 ⊢
  clear hV hg1
  obtain ⟨x0, x1, x2, x3, x4⟩ := box5 M2.out.vx.bx
  go_wp2_with fail
  refine (M2.out.same 0 rc).mono ?_
  rintro e w3 ⟨rfl, kk⟩
  have M3 := Lib.hid (M2.out.next kk)
  clear x0 x1 x2 x3 x4 kk M2
  obtain ⟨x0, x1, x2, x3, x4⟩ := box5 M3.out.vx.bx
  go_upto_region 5 with fail
  clear x0 x1 x2 x3 x4
  go_wp2_with fail
  go_loopw [9] (fun k wr => ∃ j : Nat, j ≤ r.length + 1 ∧ k = .int .i64 j ∧ Hid (LI w wr g RA r t p A c xs)) (fun k _ => r.length + 1 - (intOf k).toNat)
  case atStart => exact ⟨0, Nat.zero_le _, rfl, M3⟩
  case round =>
    clear M3
    obtain ⟨j, hj, rfl, MJ⟩ := hrel
    have hlen := HLN.out
    by_cases hle : j ≤ r.length
    · have HT := Lib.hid (top_nat MJ.out.vx.ix hle)
      obtain ⟨x0, x1, x2, x3, x4⟩ := box5 MJ.out.vx.bx
      go_wp2_with fail
      refine HT.out.mono ?_
      rintro e w4 ⟨rfl, kk⟩
      have M4 := Lib.hid (MJ.out.next kk)
      clear kk HT MJ x0 x1 x2 x3 x4
      have HC := Lib.hid (rtop_any RA rc r w4 M4.out.rd HVR.out.vd j hle)
      go_wp2_with fail
      refine HC.out.mono ?_
      rintro e w' ⟨rfl, rfl⟩
      clear HC
      by_cases hlt : j < r.length
      · have hjs : j < (sz r).length := by rw [sz_len]; exact hlt
        have hs : pre (sz r) (j + 1) = pre (sz r) j + r[j].1 := by rw [pre_succ hjs, sz_get hlt]
        have hps := HVR.out.pos _ (List.getElem_mem hjs)
        rw [sz_get hlt] at hps
        have h1 := HVR.out.vd.lo j
        have h2 := HVR.out.vd.hi j
        have h4 := HVR.out.vd.hi (j + 1)
        have hv1 := hps
        obtain ⟨b, o, rfl, hb, c0, c1⟩ := M4.out.rd j hlt
        obtain ⟨v, hvv⟩ : ∃ v, r[j].1 = v := ⟨_, rfl⟩
        obtain ⟨q, hq⟩ : ∃ q, pre (sz r) j = q := ⟨_, rfl⟩
        rw [hvv] at c0 hs hv1
        rw [hq] at h1 h2 hs
        rw [hs] at h4
        have HA1 := Lib.hid (show ∀ U, LI w U g (some ⟨b, o, none⟩) r t p A c xs → Calls Try.prog 13 #[.agg #[.int .i64 t.count, .int .i64 t.total, .int .i64 t.depth, .pointer p, .slice A xs.length c], .int .i64 q] U fun e w' => e = .returned (.tuple #[.int .i64 j, .int .i64 0, .int .i64 0]) ∧ Below U.heap.size U w' from fun U h => by
          have := at_in h.vx.ix (x := q) (i := j) ⟨hjs, by rw [hq]; exact Int.le_refl _, by rw [hs]; omega⟩
          rw [hq, Int.sub_self] at this
          exact this)
        have HA2 := Lib.hid (show ∀ U, LI w U g (some ⟨b, o, none⟩) r t p A c xs → Calls Try.prog 13 #[.agg #[.int .i64 t.count, .int .i64 t.total, .int .i64 t.depth, .pointer p, .slice A xs.length c], .int .i64 (q + v - 1)] U fun e w' => e = .returned (.tuple #[.int .i64 j, .int .i64 (v - 1), .int .i64 0]) ∧ Below U.heap.size U w' from fun U h => by
          have := at_in h.vx.ix (x := q + v - 1) (i := j) ⟨hjs, by rw [hq]; omega, by rw [hs]; omega⟩
          rw [hq, show q + v - 1 - q = v - 1 by omega] at this
          exact this)
        have HRD := Lib.hid (show ∀ U, LI w U g (some ⟨b, o, none⟩) r t p A c xs → U.cell? ⟨g, 0, none⟩ = some (.int .i64 t.count) ∧ U.cell? ⟨g, 1, none⟩ = some (.int .i64 t.total) ∧ U.cell? ⟨g, 2, none⟩ = some (.int .i64 t.depth) ∧ U.cell? ⟨g, 3, none⟩ = some (.pointer p) ∧ U.cell? ⟨g, 4, none⟩ = some (.slice A xs.length c) ∧ U.cell? ⟨b, o + j * 2, none⟩ = some (.int .i64 v) from fun U h => by
          obtain ⟨x0, x1, x2, x3, x4⟩ := box5 h.vx.bx
          obtain ⟨b', o', e', _, d0, d1⟩ := h.rd j hlt
          injection e' with e'
          injection e' with e1 e2
          subst e1; subst e2
          rw [hvv] at d0
          exact ⟨x0, x1, x2, x3, x4, d0⟩)
        rw [hq]
        have a1 : IntKind.i64.wrap (q + v) = q + v := IntWalk.i64_in _ (by omega)
        have a2 : IntKind.i64.wrap (q + v - 1) = q + v - 1 := IntWalk.i64_in _ (by omega)
        have a3 : IntKind.i64.wrap (v - 1) = v - 1 := IntWalk.i64_in _ (by omega)
        have A1 := Lib.hid a1
        have A2 := Lib.hid a2
        clear hs hvv hq hjs hps c0 c1
        obtain ⟨x0, x1, x2, x3, x4, _⟩ := HRD.out _ M4.out
        go_wp2_with fail
        refine (HA1.out _ M4.out).mono ?_
        rintro e w5 ⟨rfl, kk⟩
        have M5 := Lib.hid (M4.out.next kk)
        clear kk HA1 M4 x0 x1 x2 x3 x4
        have M5d := Lib.hid (M5.out.next (drew_below w5))
        go_upto_region 13 with fail
        go_cut [15, 16, 17] (fun s15 s16 s17 wx => s15 = .int .i64 j ∧ s16 = .int .i64 (v - 1) ∧ s17 = .int .i64 0 ∧ Hid (LI w wx g (some ⟨b, o, none⟩) r t p A c xs))
        case first =>
          go_region_held3 (fun U => U.cell? ⟨g, 0, none⟩ = some (.int .i64 t.count) ∧ U.cell? ⟨g, 1, none⟩ = some (.int .i64 t.total) ∧ U.cell? ⟨g, 2, none⟩ = some (.int .i64 t.depth) ∧ U.cell? ⟨g, 3, none⟩ = some (.pointer p) ∧ U.cell? ⟨g, 4, none⟩ = some (.slice A xs.length c) ∧ U.cell? ⟨b, o + j * 2, none⟩ = some (.int .i64 v))
            (first
              | with_reducible exact HRD.out _ M5d.out
              | with_reducible exact HRD.out _ M6.out)
            (first
              | (go_at_call 13; (with_reducible refine (HA2.out _ M5d.out).mono ?_); rintro e w6 ⟨rfl, kk⟩; have M6 := Lib.hid (M5d.out.next kk); clear kk))
          all_goals (
            go_wp2_with fail
            go_meet
            exact ⟨rfl, rfl, rfl, M6⟩)
        case rest =>
          obtain ⟨rfl, rfl, rfl, M6⟩ := hcut
          clear M5 M5d HA2
          obtain ⟨x0, x1, x2, x3, x4, c0⟩ := HRD.out _ M6.out
          clear x0 x1 x2 x3 x4 A1 A2
          go_wp2_with fail
          go_roundw
          case rel => exact ⟨j + 1, by omega, by go_num, M6⟩
          case measure => simp [intOf]; omega
      · go_wp2_with fail
        go_roundw
        case rel => exact ⟨j + 1, by omega, by go_num, M4⟩
        case measure => simp [intOf]; omega
    · obtain ⟨⟨a, f⟩, e1⟩ : ∃ y, topR r i = y := ⟨_, rfl⟩
      obtain ⟨⟨s, fs⟩, e2⟩ : ∃ y, sizeR r i = y := ⟨_, rfl⟩
      obtain ⟨⟨kb, fk⟩, e3⟩ : ∃ y, knownR r i = y := ⟨_, rfl⟩
      have H3 := Lib.hid (three_at r i a f s fs fk kb e1 e2 e3)
      have HT := Lib.hid (show ∀ U, LI w U g RA r t p A c xs → Calls Try.prog 11 #[.agg #[.int .i64 t.count, .int .i64 t.total, .int .i64 t.depth, .pointer p, .slice A xs.length c], .int .i64 i] U fun e w' => e = .returned (.tuple #[.int .i64 a, .int .i64 f]) ∧ Below U.heap.size U w' from fun U h => by
        have := top_any h.vx.ix i hi
        rw [e1] at this
        exact this)
      have HS := Lib.hid (show ∀ U, LI w U g RA r t p A c xs → Calls Try.prog 14 #[.agg #[.int .i64 t.count, .int .i64 t.total, .int .i64 t.depth, .pointer p, .slice A xs.length c], .int .i64 i] U fun e w' => e = .returned (.tuple #[.int .i64 s, .int .i64 fs]) ∧ Below U.heap.size U w' from fun U h => by
        have := size_any h.vx.ix i hi
        rw [e2] at this
        exact this)
      have HK := Lib.hid (show ∀ U, LI w U g RA r t p A c xs → Calls Try.prog 15 #[.agg #[.int .i64 t.count, .int .i64 t.total, .int .i64 t.depth, .pointer p, .slice A xs.length c], .int .i64 i] U fun e w' => e = .returned (.tuple #[.bool kb, .int .i64 fk]) ∧ Below U.heap.size U w' from fun U h => by
        have := known_any h.vx.ix i hi
        rw [e3] at this
        exact this)
      clear e1 e2 e3 hj
      obtain ⟨x0, x1, x2, x3, x4⟩ := box5 MJ.out.vx.bx
      go_wp2_with fail
      refine (HT.out _ MJ.out).mono ?_
      rintro e w4 ⟨rfl, kk⟩
      have M4 := Lib.hid (MJ.out.next kk)
      clear kk HT MJ x0 x1 x2 x3 x4
      obtain ⟨x0, x1, x2, x3, x4⟩ := box5 M4.out.vx.bx
      go_wp2_with fail
      refine (HS.out _ M4.out).mono ?_
      rintro e w5 ⟨rfl, kk⟩
      have M5 := Lib.hid (M4.out.next kk)
      clear kk HS M4 x0 x1 x2 x3 x4
      obtain ⟨x0, x1, x2, x3, x4⟩ := box5 M5.out.vx.bx
      go_wp2_with fail
      refine (HK.out _ M5.out).mono ?_
      rintro e w6 ⟨rfl, kk⟩
      have M6 := Lib.hid (M5.out.next kk)
      clear kk HK M5 x0 x1 x2 x3 x4
      go_upto_region 19 with fail
      go_cut [24] (fun q wx => ∃ ins : Bool, q = .bool ins ∧ ins = decide (0 ≤ i ∧ i < (r.length : Int)) ∧ wx = w6)
      case first =>
        by_cases g1 : 0 ≤ i
        · have d1 : decide (0 ≤ i) = true := decide_eq_true g1
          by_cases g2 : i < (r.length : Int)
          · have HQ := Lib.hid (show decide (0 ≤ i ∧ i < (r.length : Int)) = true from decide_eq_true ⟨g1, g2⟩)
            have d2 : decide (i < (r.length : Int)) = true := decide_eq_true g2
            go_wp2_with fail
            go_meet
            exact ⟨_, rfl, HQ.out.symm, rfl⟩
          · have HQ := Lib.hid (show decide (0 ≤ i ∧ i < (r.length : Int)) = false from decide_eq_false (fun h => g2 h.2))
            have d2 : decide (i < (r.length : Int)) = false := decide_eq_false g2
            go_wp2_with fail
            go_meet
            exact ⟨_, rfl, HQ.out.symm, rfl⟩
        · have HQ := Lib.hid (show decide (0 ≤ i ∧ i < (r.length : Int)) = false from decide_eq_false (fun h => g1 h.1))
          have d1 : decide (0 ≤ i) = false := decide_eq_false g1
          go_wp2_with fail
          go_meet
          exact ⟨_, rfl, HQ.out.symm, rfl⟩
      case rest =>
        obtain ⟨ins, rfl, hins, rfl⟩ := hcut
        have HI := Lib.hid hins
        clear hins
        go_upto_region 20 with fail
        go_cut [184] (fun q wx => q = .bool false ∧ wx = wc)
        case first =>
          rcases H3.out with ⟨g1, g2, rfl, rfl, rfl⟩ | ⟨rfl, rfl, rfl, rfl, rfl, rfl⟩ | ⟨g1, rfl, rfl, rfl, rfl, rfl, rfl⟩
          · obtain rfl : ins = true := HI.out.trans (decide_eq_true ⟨g1, g2⟩)
            clear H3 HI
            go_wp2_with fail
            go_meet
            exact ⟨rfl, rfl⟩
          · obtain rfl : ins = false := HI.out.trans (decide_eq_false (by omega))
            clear H3 HI
            go_wp2_with fail
            go_meet
            exact ⟨rfl, rfl⟩
          · obtain rfl : ins = false := HI.out.trans (decide_eq_false (by omega))
            have g2 : ¬ i = (r.length : Int) := by omega
            have g3 : (i == (r.length : Int)) = false := by simp; exact g2
            clear H3 HI g1
            go_wp2_with fail
            go_meet
            exact ⟨rfl, rfl⟩
        case rest =>
          obtain ⟨rfl, rfl⟩ := hcut
          clear H3
          go_upto_region 22 with fail
          rcases both_place HVR.out x with ⟨k, y, hp, hq⟩ | ⟨hp, hq⟩
          · have HP := Lib.hid hp
            have HQ := Lib.hid hq
            clear hp hq
            obtain ⟨x0, x1, x2, x3, x4⟩ := box5 M6.out.vx.bx
            go_wp2_with fail
            refine (HP.out _ _ _ _ _ _ M6.out.vx.ix).mono ?_
            rintro e w7 ⟨rfl, kk⟩
            have M7 := Lib.hid (M6.out.next kk)
            clear kk HP M6 x0 x1 x2 x3 x4
            go_wp2_with fail
            refine (HQ.out _ _ _ M7.out.rd).mono ?_
            rintro e w' ⟨rfl, rfl⟩
            clear HQ
            go_wp2_with fail
            refine (lives_any _).mono ?_
            rintro e w8 ⟨rfl, kk⟩
            have M8 := Lib.hid (M7.out.next kk)
            clear kk M7
            go_wp2_with fail
            go_ret
            exact ⟨rfl, M8.out.vx.u⟩
          · have HP := Lib.hid hp
            have HQ := Lib.hid hq
            clear hp hq
            obtain ⟨x0, x1, x2, x3, x4⟩ := box5 M6.out.vx.bx
            go_wp2_with fail
            refine (HP.out _ _ _ _ _ _ M6.out.vx.ix).mono ?_
            rintro e w7 ⟨rfl, kk⟩
            have M7 := Lib.hid (M6.out.next kk)
            clear kk HP M6 x0 x1 x2 x3 x4
            go_wp2_with fail
            refine (HQ.out _ _ _ M7.out.rd).mono ?_
            rintro e w' ⟨rfl, rfl⟩
            clear HQ
            go_wp2_with fail
            refine (lives_any _).mono ?_
            rintro e w8 ⟨rfl, kk⟩
            have M8 := Lib.hid (M7.out.next kk)
            clear kk M7
            go_wp2_with fail
            go_ret
            exact ⟨rfl, M8.out.vx.u⟩
end Go.Proofs.Ytdejdnkkbpmmlaa
