/- The walk of the law RopesKnown. -/
import Derived.Test.YtfkjnepafgehiaaKnA
namespace Go.Proofs.Ytfkjnepafgehiaa
open Go.RowKit

theorem sl_two (W : World) (x y : Int) : SlI (W.alloc (.cells #[.int .i64 x, .int .i64 y] 2)) (some ⟨W.heap.size, 0, none⟩) 2 [x, y] :=
  ⟨RdI.lit (W := W) (t := 2) (cs := #[.int .i64 x, .int .i64 y]) (zs := [x, y]) rfl, Nat.le_refl _, by omega, fun h => by cases h⟩
theorem rdI_row {w : World} {g : Nat} {l : List Int} (h : w.heap[g]? = some (.cells (ints l) 2 (0, 0))) : RdI w w.heap.size (some ⟨g, 0, none⟩) l := fun k hk => by
  refine ⟨g, 0, rfl, heap_lt h, ?_⟩
  rw [cell_of_row w g (0 + k) _ 2 (0, 0) h]
  simp [ints, hk]
/-- the law's memory: the row, and what has changed -/
structure L8 (w W : World) (l : List Int) : Prop where
  s : SlI W (some ⟨w.heap.size, 0, none⟩) 4097 l
  u : Below w.heap.size w W
theorem L8.next {w W W' : World} {l : List Int} (h : L8 w W l) (kk : Below W.heap.size W W') : L8 w W' l := ⟨h.s.below kk, h.u.trans (kk.mono h.u.size)⟩
theorem vdA : Vd [2305843009213693952, 2305843009213693952] := chk_zero.1 (by decide)
theorem vdB : Vd [1] := chk_zero.1 (by decide)
theorem vdC8 : Vd [2305843009213693951, 2305843009213693952] := chk_zero.1 (by decide)
theorem vd04 : Vd [0, 4] := chk_zero.1 (by decide)
theorem vd0 : Vd [0] := chk_zero.1 (by decide)
theorem drew_below (W : World) : Below W.heap.size W W.drew := ⟨rfl, rfl, rfl, Nat.le_refl _, fun _ _ => rfl⟩
theorem Rp.dep {W : World} {g : Nat} {l : List Int} {t : T} {p : Option Addr} (h : Rp W g l t p) (hv : Vd l) : decide ((16 : Int) < (t.depth : Int)) = false := by
  have hc : t.count ≤ 4096 := by rw [← T.len, h.ls.list]; exact hv.len
  have := T.depth_16 h.ls.bal hc
  exact decide_eq_false (by omega)
theorem ins_rp {W : World} {g : Nat} {l s : List Int} {t : T} {p : Option Addr} (h : Rp W g l t p) (hv : Vd l) {S : Option Addr} {c : Nat} (hs : SlI W S c s) (i : Int) (hi : i ≤ 9223372036854775807) :
    Calls Try.prog 28 #[.agg #[.int .i64 t.count, .int .i64 t.total, .int .i64 t.depth, .pointer p], .int .i64 i, .slice S s.length c] W (GivesE (Ls (insR l i s).1) (insR l i s).2 W) := by
  have := ins_any i S c s hs.rd hs.le hs.max h.nd h.ls.bal (ls_ok h.ls hv) hi
  rwa [h.ls.list] at this
theorem mov_rp {W : World} {g : Nat} {l : List Int} {t : T} {p : Option Addr} (h : Rp W g l t p) (hv : Vd l) (i n x : Int) (hi : i ≤ 9223372036854775807) (hx : x ≤ 9223372036854775807) :
    Calls Try.prog 32 #[.agg #[.int .i64 t.count, .int .i64 t.total, .int .i64 t.depth, .pointer p], .int .i64 i, .int .i64 n, .int .i64 x] W (GivesE (Ls (movR l i n x).1) (movR l i n x).2 W) := by
  have := mov_any i n x h.nd h.ls.bal (ls_ok h.ls hv) hi hx
  rwa [h.ls.list] at this
theorem rem_rp {W : World} {g : Nat} {l : List Int} {t : T} {p : Option Addr} (h : Rp W g l t p) (hv : Vd l) (i n : Int) (hi : i ≤ 9223372036854775807) :
    Calls Try.prog 30 #[.agg #[.int .i64 t.count, .int .i64 t.total, .int .i64 t.depth, .pointer p], .int .i64 i, .int .i64 n] W (GivesE (Ls (remR l i n).1) (remR l i n).2 W) := by
  have := rem_any i n h.nd h.ls.bal (ls_ok h.ls hv) hi
  rwa [h.ls.list] at this
theorem set_rp {W : World} {g : Nat} {l : List Int} {t : T} {p : Option Addr} (h : Rp W g l t p) (hv : Vd l) (i x : Int) (hi : i ≤ 9223372036854775807) (h1 : -9223372036854775808 ≤ x) (h2 : x ≤ 9223372036854775807) :
    Calls Try.prog 34 #[.agg #[.int .i64 t.count, .int .i64 t.total, .int .i64 t.depth, .pointer p], .int .i64 i, .int .i64 x] W (GivesE (Ls (setR l i x).1) (setR l i x).2 W) := by
  have := set_any i x h.nd h.ls.bal (ls_ok h.ls hv) hi h1 h2
  rwa [h.ls.list] at this
theorem join_rp {W : World} {g k : Nat} {l m : List Int} {t u : T} {p q : Option Addr} (h : Rp W g l t p) (hv : Vd l) (h2 : Rp W k m u q) (hv2 : Vd m) :
    Calls Try.prog 24 #[.agg #[.int .i64 t.count, .int .i64 t.total, .int .i64 t.depth, .pointer p], .agg #[.int .i64 u.count, .int .i64 u.total, .int .i64 u.depth, .pointer q]] W (GivesE (Ls (joinR l m).1) (joinR l m).2 W) :=
  join_ls h.nd h2.nd h.ls h2.ls hv hv2

set_option maxRecDepth 100000 in
set_option maxHeartbeats 16000000 in
theorem law8_any (hL : LivesOk) (w : World) : Calls Try.prog 8 #[] w fun e w' => e = .returned (.bool true) ∧ Below w.heap.size w w' := by
  have HL := Lib.hid hL; clear hL
  obtain ⟨l, hM⟩ := isK_ex 4097
  have HM := Lib.hid hM
  have hlen : Hid (l.length = 4097) := Lib.hid hM.len
  have hmk := make_ints 4097 4097 rfl (by omega)
  obtain ⟨Z, hZ⟩ : ∃ Z, Z = ints (List.replicate 4097 0) := ⟨_, rfl⟩
  rw [← hZ] at hmk
  have h0 : Hid ((w.alloc (.cells Z 2)).heap[w.heap.size]? = some (.cells (ints (part l 0)) 2 (0, 0))) := Lib.hid (by rw [part_zero, hlen.out, ← hZ]; exact heap_alloc_new w _)
  have B0 : Hid (Below w.heap.size w (w.alloc (.cells Z 2))) := Lib.hid ((Below.refl _ _).alloc (Nat.le_refl _) _)
  clear hM hZ
  go_enter Try.func8, Try.ntmps8
  go_wp2_with fail
  go_loopw [2] (fun k wr => ∃ j : Nat, k = .int .i64 j ∧ j ≤ 4097 ∧ Hid (wr.heap[w.heap.size]? = some (.cells (ints (part l j)) 2 (0, 0))) ∧ Hid (Below w.heap.size w wr)) (fun k _ => 4097 - (intOf k).toNat)
  case atStart => exact ⟨0, rfl, Nat.zero_le _, h0, B0⟩
  case round =>
    obtain ⟨j, rfl, hj, HG, HB⟩ := hrel
    by_cases hlt : j < 4097
    · have hjl : j < l.length := by have := hlen.out; omega
      have hlp : j < (part l j).length := by rw [part_len l j (by omega)]; exact hjl
      have hcl : wr.cell? ⟨w.heap.size, j, none⟩ = some (.int .i64 0) := by
        rw [cell_of_row wr w.heap.size j (ints (part l j)) 2 (0, 0) HG.out]
        simp [ints, hlp, part_at hjl hlp]
      have hfz : wr.frozen? ⟨w.heap.size, j, none⟩ = false := by simp [World.frozen?, HG.out]
      have HS : Hid ((wr.setCell ⟨w.heap.size, j, none⟩ (.int .i64 ((j : Int) % 5))).heap[w.heap.size]? = some (.cells (ints (part l (j + 1))) 2 (0, 0))) := Lib.hid (by
        have := row_set HG.out 0 j l[j]
        have e := part_succ hjl hlp
        rw [part_at hjl hlp, Int.zero_add] at e
        rw [e] at this
        have e2 := HM.out.at_ j hjl
        rw [e2, show ((j % 5 : Nat) : Int) = (j : Int) % 5 from by omega] at this
        exact this)
      have HB' : Hid (Below w.heap.size w (wr.setCell ⟨w.heap.size, j, none⟩ (.int .i64 ((j : Int) % 5)))) := Lib.hid (HB.out.setCell (p := ⟨w.heap.size, j, none⟩) (Nat.le_refl _) _)
      clear hlp hjl
      go_wp2_with fail
      go_roundw
      case rel => exact ⟨j + 1, by go_num, by omega, HS, HB'⟩
      case measure => simp [intOf]; omega
    · obtain rfl : j = 4097 := by omega
      have HG1 : Hid (wr.heap[w.heap.size]? = some (.cells (ints l) 2 (0, 0))) := Lib.hid (by have := HG.out; rwa [← hlen.out, part_all] at this)
      have M : Hid (L8 w wr l) := Lib.hid ⟨⟨rdI_row HG1.out, by rw [hlen.out]; omega, by omega, fun h => by cases h⟩, HB.out⟩
      clear HG HG1 HB hj hlt hmk h0 B0
      obtain ⟨J, hJ⟩ : ∃ J, l.take 4096 = J := ⟨_, rfl⟩
      have HJ : Hid (IsK J 4096) := Lib.hid (hJ ▸ HM.out.take 4096 (by omega))
      have HSJ : Hid (∀ W, L8 w W l → SlI W (some ⟨w.heap.size, 0, none⟩) 4097 J) := Lib.hid (fun W h => hJ ▸ h.s.head 4096)
      have HS1 : Hid (∀ W, L8 w W l → SlI W (some ⟨w.heap.size, 0, none⟩) 4097 [0]) := Lib.hid (fun W h => by
        have e : l.take 1 = [0] := by
          have hlt : 0 < l.length := by rw [hlen.out]; omega
          have h0 := HM.out.at_ 0 hlt
          match l, hlt, h0 with
          | x :: _, _, h0 => simpa using h0
        rw [← e]; exact h.s.head 1)
      clear hJ
      have HK : Hid (Calls Try.prog 11 #[.slice (some ⟨w.heap.size, 0, none⟩) 4096 4097] wr (GivesE (Lo J) 0 wr)) := Lib.hid (by
        have s := HSJ.out wr M.out
        have := of_ok _ 4097 J wr s.rd HJ.out.vd s.le s.max
        rwa [HJ.out.len] at this)
      go_wp2_with fail
      refine HK.out.mono ?_
      rintro e w1 ⟨t3, p3, hs, rfl, hn, kk⟩
      replace M := Lib.hid (M.out.next kk)
      have bn := below_new w1 (.cells #[.int .i64 t3.count, .int .i64 t3.total, .int .i64 t3.depth, .pointer p3] 27)
      replace M := Lib.hid (M.out.next bn)
      have R3 := Lib.hid (rp_new hn hs.ls)
      clear kk bn hn hs HK 
      go_upto_region 7 with fail
      obtain ⟨W1, hW⟩ : ∃ W, w1.alloc (.cells #[.int .i64 t3.count, .int .i64 t3.total, .int .i64 t3.depth, .pointer p3] 27) = W := ⟨_, rfl⟩
      obtain ⟨g3, hg⟩ : ∃ g, w1.heap.size = g := ⟨_, rfl⟩
      rw [hW] at M R3 ⊢
      rw [hg] at R3 ⊢
      clear hW hg
      have HK : Hid (Calls Try.prog 11 #[.slice (some ⟨w.heap.size, 0, none⟩) 4097 4097] W1 (GivesE (Ls []) 3 W1)) := Lib.hid (by
        have := of_bad _ 4097 l W1 M.out.s.rd (by rw [hlen.out]; omega) (by rw [HM.out.chk]; decide)
        rwa [hlen.out, HM.out.chk] at this)
      go_wp2_with fail
      refine HK.out.mono ?_
      rintro e w1 ⟨t5, p5, hs, rfl, hn, kk⟩
      replace M := Lib.hid (M.out.next kk)
      replace R3 := Lib.hid (R3.out.next kk)
      have bn := below_new w1 (.cells #[.int .i64 t5.count, .int .i64 t5.total, .int .i64 t5.depth, .pointer p5] 27)
      replace M := Lib.hid (M.out.next bn)
      replace R3 := Lib.hid (R3.out.next bn)
      clear kk bn hn hs HK 
      go_upto_region 8 with fail
      obtain ⟨W2, hW⟩ : ∃ W, w1.alloc (.cells #[.int .i64 t5.count, .int .i64 t5.total, .int .i64 t5.depth, .pointer p5] 27) = W := ⟨_, rfl⟩
      obtain ⟨g5, hg⟩ : ∃ g, w1.heap.size = g := ⟨_, rfl⟩
      rw [hW] at M R3 ⊢
      rw [hg] at ⊢
      clear hW hg
      have HK : Hid (Calls Try.prog 11 #[.slice (some ⟨w.heap.size, 0, none⟩) 1 4097] W2 (GivesE (Lo [0]) 0 W2)) := Lib.hid (of_ok _ 4097 [0] W2 (HS1.out _ M.out).rd vd0 (HS1.out _ M.out).le (HS1.out _ M.out).max)
      go_wp2_with fail
      refine HK.out.mono ?_
      rintro e w1 ⟨t7, p7, hs, rfl, hn, kk⟩
      replace M := Lib.hid (M.out.next kk)
      replace R3 := Lib.hid (R3.out.next kk)
      have bn := below_new w1 (.cells #[.int .i64 t7.count, .int .i64 t7.total, .int .i64 t7.depth, .pointer p7] 27)
      replace M := Lib.hid (M.out.next bn)
      replace R3 := Lib.hid (R3.out.next bn)
      have R7 := Lib.hid (rp_new hn hs.ls)
      clear kk bn hn hs HK 
      go_upto_region 9 with fail
      obtain ⟨W3, hW⟩ : ∃ W, w1.alloc (.cells #[.int .i64 t7.count, .int .i64 t7.total, .int .i64 t7.depth, .pointer p7] 27) = W := ⟨_, rfl⟩
      obtain ⟨g7, hg⟩ : ∃ g, w1.heap.size = g := ⟨_, rfl⟩
      rw [hW] at M R3 R7 ⊢
      rw [hg] at R7 ⊢
      clear hW hg
      obtain ⟨x0, x1, x2, x3⟩ := R3.out.cells
      obtain ⟨y0, y1, y2, y3⟩ := R7.out.cells
      have hk := join_rp R3.out HJ.out.vd R7.out vd0
      rw [HJ.out.join] at hk
      have HK := Lib.hid hk
      clear hk
      go_wp2_with fail
      refine HK.out.mono ?_
      rintro e w1 ⟨t9, p9, hs, rfl, hn, kk⟩
      replace M := Lib.hid (M.out.next kk)
      replace R3 := Lib.hid (R3.out.next kk)
      have bn := below_new w1 (.cells #[.int .i64 t9.count, .int .i64 t9.total, .int .i64 t9.depth, .pointer p9] 27)
      replace M := Lib.hid (M.out.next bn)
      replace R3 := Lib.hid (R3.out.next bn)
      clear kk bn hn hs HK R7 x0 x1 x2 x3 y0 y1 y2 y3
      go_upto_region 10 with fail
      obtain ⟨W4, hW⟩ : ∃ W, w1.alloc (.cells #[.int .i64 t9.count, .int .i64 t9.total, .int .i64 t9.depth, .pointer p9] 27) = W := ⟨_, rfl⟩
      obtain ⟨g9, hg⟩ : ∃ g, w1.heap.size = g := ⟨_, rfl⟩
      rw [hW] at M R3 ⊢
      rw [hg] at ⊢
      clear hW hg
      obtain ⟨x0, x1, x2, x3⟩ := R3.out.cells
      have bl := below_new W4 (.cells #[.int .i64 1] 2)
      have HS := Lib.hid (sl_one W4 1)
      replace M := Lib.hid (M.out.next bl)
      replace R3 := Lib.hid (R3.out.next bl)
      have hk := ins_rp R3.out HJ.out.vd HS.out 9 (by omega)
      rw [HJ.out.ins] at hk
      have HK := Lib.hid hk
      clear hk bl
      go_wp2_with fail
      refine HK.out.mono ?_
      rintro e w1 ⟨t11, p11, hs, rfl, hn, kk⟩
      replace M := Lib.hid (M.out.next kk)
      replace R3 := Lib.hid (R3.out.next kk)
      have bn := below_new w1 (.cells #[.int .i64 t11.count, .int .i64 t11.total, .int .i64 t11.depth, .pointer p11] 27)
      replace M := Lib.hid (M.out.next bn)
      replace R3 := Lib.hid (R3.out.next bn)
      clear kk bn hn hs HK HS x0 x1 x2 x3
      go_upto_region 11 with fail
      obtain ⟨W5, hW⟩ : ∃ W, w1.alloc (.cells #[.int .i64 t11.count, .int .i64 t11.total, .int .i64 t11.depth, .pointer p11] 27) = W := ⟨_, rfl⟩
      obtain ⟨g11, hg⟩ : ∃ g, w1.heap.size = g := ⟨_, rfl⟩
      rw [hW] at M R3 ⊢
      rw [hg] at ⊢
      clear hW hg
      go_cut [91] (fun s wx => s = .bool false ∧ Hid (L8 w wx l) ∧ Hid (Rp wx g3 J t3 p3))
      case first =>
        obtain ⟨P, hP⟩ : ∃ P : World → Prop, (fun W => L8 w W l ∧ Rp W g3 J t3 p3) = P := ⟨_, rfl⟩
        have hP0 : P W5 := by rw [← hP]; exact ⟨M.out, R3.out⟩
        have SA := Lib.hid (show ∀ W, P W → Calls Try.prog 12 #[.agg #[.int .i64 t3.count, .int .i64 t3.total, .int .i64 t3.depth, .pointer p3], .int .i64 0, .slice (some ⟨w.heap.size, 0, none⟩) 4096 4097, .int .i64 0] W fun e w' => e = .returned (.bool true) ∧ Below W.heap.size W w' from fun W h => by
          rw [← hP] at h
          exact h.2.same HJ.out.vd (HSJ.out W h.1).rd HJ.out.len)
        have PC := Lib.hid (show ∀ W, P W → (P W ∧ (W.cell? ⟨g3, 0, none⟩ = some (.int .i64 t3.count) ∧ W.cell? ⟨g3, 1, none⟩ = some (.int .i64 t3.total) ∧ W.cell? ⟨g3, 2, none⟩ = some (.int .i64 t3.depth) ∧ W.cell? ⟨g3, 3, none⟩ = some (.pointer p3))) from fun W h => by
          have h' := h
          rw [← hP] at h'
          exact ⟨h, h'.2.cells⟩)
        have PN := Lib.hid (show ∀ W W', P W → Below W.heap.size W W' → P W' from fun W W' h kk => by
          rw [← hP] at h ⊢
          exact ⟨h.1.next kk, h.2.next kk⟩)
        have PM := Lib.hid (show ∀ W, P W → Hid (L8 w W l) ∧ Hid (Rp W g3 J t3 p3) from fun W h => by
          rw [← hP] at h
          exact ⟨Lib.hid h.1, Lib.hid h.2⟩)
        have HP0 := Lib.hid (PN.out _ _ hP0 (drew_below W5))
        have hd16 := R3.out.dep HJ.out.vd
        clear hP hP0 M R3
        go_region_held3 (fun W => P W ∧ (W.cell? ⟨g3, 0, none⟩ = some (.int .i64 t3.count) ∧ W.cell? ⟨g3, 1, none⟩ = some (.int .i64 t3.total) ∧ W.cell? ⟨g3, 2, none⟩ = some (.int .i64 t3.depth) ∧ W.cell? ⟨g3, 3, none⟩ = some (.pointer p3)))
          (first
            | with_reducible exact PC.out _ HP0.out
            | with_reducible exact PC.out _ hp1.out
            | with_reducible exact PC.out _ hp2.out)
          (first
            | (go_at_call 12; refine (SA.out _ HP0.out).mono ?_; rintro e w7 ⟨rfl, k1⟩; have hp1 := Lib.hid (PN.out _ _ HP0.out k1))
            | (go_at_call 35; refine (depth_below _ _ _ _ _).mono ?_; rintro e w8 ⟨rfl, k2⟩; have hp2 := Lib.hid (PN.out _ _ hp1.out k2)))
        all_goals (go_wp2_with fail; go_meet; exact ⟨rfl, PM.out _ hp2.out⟩)
      case rest =>
      obtain ⟨rfl, M2, R2⟩ := hcut
      clear M R3
      have M := M2
      have R3 := R2
      clear M2 R2
      obtain ⟨x0, x1, x2, x3⟩ := R3.out.cells
      have hk := mov_rp R3.out HJ.out.vd 0 2000 2096 (by omega) (by omega)
      rw [HJ.out.mov] at hk
      obtain ⟨K, hKK⟩ : ∃ K, J.drop 2000 ++ J.take 2000 = K := ⟨_, rfl⟩
      have HV2 := Lib.hid (hKK ▸ HJ.out.vd2)
      have HBK := Lib.hid (hKK ▸ HJ.out.back)
      have HRM := Lib.hid (hKK ▸ HJ.out.rem)
      rw [hKK] at hk
      have HK := Lib.hid hk
      clear hk hKK
      go_wp2_with fail
      refine HK.out.mono ?_
      rintro e w1 ⟨t13, p13, hs, rfl, hn, kk⟩
      replace M := Lib.hid (M.out.next kk)
      have bn := below_new w1 (.cells #[.int .i64 t13.count, .int .i64 t13.total, .int .i64 t13.depth, .pointer p13] 27)
      replace M := Lib.hid (M.out.next bn)
      have R13 := Lib.hid (rp_new hn hs)
      clear kk bn hn hs HK R3 x0 x1 x2 x3
      go_upto_region 14 with fail
      obtain ⟨W6, hW⟩ : ∃ W, w1.alloc (.cells #[.int .i64 t13.count, .int .i64 t13.total, .int .i64 t13.depth, .pointer p13] 27) = W := ⟨_, rfl⟩
      obtain ⟨g13, hg⟩ : ∃ g, w1.heap.size = g := ⟨_, rfl⟩
      rw [hW] at M R13 ⊢
      rw [hg] at R13 ⊢
      clear hW hg
      obtain ⟨x0, x1, x2, x3⟩ := R13.out.cells
      have hk := mov_rp R13.out HV2.out 2096 2000 0 (by omega) (by omega)
      rw [HBK.out] at hk
      have HK := Lib.hid hk
      clear hk
      go_wp2_with fail
      refine HK.out.mono ?_
      rintro e w1 ⟨t14, p14, hs, rfl, hn, kk⟩
      replace M := Lib.hid (M.out.next kk)
      replace R13 := Lib.hid (R13.out.next kk)
      have bn := below_new w1 (.cells #[.int .i64 t14.count, .int .i64 t14.total, .int .i64 t14.depth, .pointer p14] 27)
      replace M := Lib.hid (M.out.next bn)
      replace R13 := Lib.hid (R13.out.next bn)
      have R14 := Lib.hid (rp_new hn hs)
      clear kk bn hn hs HK x0 x1 x2 x3
      go_upto_region 15 with fail
      obtain ⟨W7, hW⟩ : ∃ W, w1.alloc (.cells #[.int .i64 t14.count, .int .i64 t14.total, .int .i64 t14.depth, .pointer p14] 27) = W := ⟨_, rfl⟩
      obtain ⟨g14, hg⟩ : ∃ g, w1.heap.size = g := ⟨_, rfl⟩
      rw [hW] at M R13 R14 ⊢
      rw [hg] at R14 ⊢
      clear hW hg
      obtain ⟨x0, x1, x2, x3⟩ := R13.out.cells
      have hk := rem_rp R13.out HV2.out 1 4094 (by omega)
      rw [HRM.out] at hk
      have HK := Lib.hid hk
      clear hk
      go_wp2_with fail
      refine HK.out.mono ?_
      rintro e w1 ⟨t15, p15, hs, rfl, hn, kk⟩
      replace M := Lib.hid (M.out.next kk)
      replace R13 := Lib.hid (R13.out.next kk)
      replace R14 := Lib.hid (R14.out.next kk)
      have bn := below_new w1 (.cells #[.int .i64 t15.count, .int .i64 t15.total, .int .i64 t15.depth, .pointer p15] 27)
      replace M := Lib.hid (M.out.next bn)
      replace R13 := Lib.hid (R13.out.next bn)
      replace R14 := Lib.hid (R14.out.next bn)
      have R15 := Lib.hid (rp_new hn hs)
      clear kk bn hn hs HK x0 x1 x2 x3
      go_upto_region 16 with fail
      obtain ⟨W8, hW⟩ : ∃ W, w1.alloc (.cells #[.int .i64 t15.count, .int .i64 t15.total, .int .i64 t15.depth, .pointer p15] 27) = W := ⟨_, rfl⟩
      obtain ⟨g15, hg⟩ : ∃ g, w1.heap.size = g := ⟨_, rfl⟩
      rw [hW] at M R13 R14 R15 ⊢
      rw [hg] at R15 ⊢
      clear hW hg
      go_cut [128] (fun s wx => s = .bool false ∧ Hid (L8 w wx l))
      case first =>
        obtain ⟨P, hP⟩ : ∃ P : World → Prop, (fun W => L8 w W l ∧ Rp W g14 J t14 p14 ∧ Rp W g15 [0, 4] t15 p15 ∧ Rp W g13 K t13 p13) = P := ⟨_, rfl⟩
        have hP0 : P W8 := by rw [← hP]; exact ⟨M.out, R14.out, R15.out, R13.out⟩
        have SA := Lib.hid (show ∀ W, P W → Calls Try.prog 12 #[.agg #[.int .i64 t14.count, .int .i64 t14.total, .int .i64 t14.depth, .pointer p14], .int .i64 0, .slice (some ⟨w.heap.size, 0, none⟩) 4096 4097, .int .i64 0] W fun e w' => e = .returned (.bool true) ∧ Below W.heap.size W w' from fun W h => by
          rw [← hP] at h
          exact h.2.1.same HJ.out.vd (HSJ.out W h.1).rd HJ.out.len)
        have SB := Lib.hid (show ∀ W0, P W0 → ∀ W, Below W0.heap.size W0 W → (∃ g : Nat, W0.heap.size = g ∧ W.heap[g]? = some (.cells #[.int .i64 0, .int .i64 4] 2 (0, 0))) → True from fun _ _ _ _ _ => trivial)
        have SB := Lib.hid (show ∀ W, P W → Calls Try.prog 12 #[.agg #[.int .i64 t15.count, .int .i64 t15.total, .int .i64 t15.depth, .pointer p15], .int .i64 0, .slice (some ⟨W.heap.size, 0, none⟩) 2 2, .int .i64 0] (W.alloc (.cells #[.int .i64 0, .int .i64 4] 2)) fun e w' => e = .returned (.bool true) ∧ Below (W.alloc (.cells #[.int .i64 0, .int .i64 4] 2)).heap.size (W.alloc (.cells #[.int .i64 0, .int .i64 4] 2)) w' from fun W h => by
          rw [← hP] at h
          exact (h.2.2.1.next (below_new W (.cells #[.int .i64 0, .int .i64 4] 2))).same vd04 (sl_two W 0 4).rd rfl)
        have PC := Lib.hid (show ∀ W, P W → (P W ∧ (W.cell? ⟨g14, 0, none⟩ = some (.int .i64 t14.count) ∧ W.cell? ⟨g14, 1, none⟩ = some (.int .i64 t14.total) ∧ W.cell? ⟨g14, 2, none⟩ = some (.int .i64 t14.depth) ∧ W.cell? ⟨g14, 3, none⟩ = some (.pointer p14)) ∧ (W.cell? ⟨g15, 0, none⟩ = some (.int .i64 t15.count) ∧ W.cell? ⟨g15, 1, none⟩ = some (.int .i64 t15.total) ∧ W.cell? ⟨g15, 2, none⟩ = some (.int .i64 t15.depth) ∧ W.cell? ⟨g15, 3, none⟩ = some (.pointer p15)) ∧ (W.cell? ⟨g13, 0, none⟩ = some (.int .i64 t13.count) ∧ W.cell? ⟨g13, 1, none⟩ = some (.int .i64 t13.total) ∧ W.cell? ⟨g13, 2, none⟩ = some (.int .i64 t13.depth) ∧ W.cell? ⟨g13, 3, none⟩ = some (.pointer p13))) from fun W h => by
          have h' := h
          rw [← hP] at h'
          exact ⟨h, h'.2.1.cells, h'.2.2.1.cells, h'.2.2.2.cells⟩)
        have PN := Lib.hid (show ∀ W W', P W → Below W.heap.size W W' → P W' from fun W W' h kk => by
          rw [← hP] at h ⊢
          exact ⟨h.1.next kk, h.2.1.next kk, h.2.2.1.next kk, h.2.2.2.next kk⟩)
        have PM := Lib.hid (show ∀ W, P W → Hid (L8 w W l) from fun W h => by
          rw [← hP] at h
          exact Lib.hid h.1)
        have HP0 := Lib.hid (PN.out _ _ hP0 (drew_below W8))
        have hd16 := R13.out.dep HV2.out
        clear hP hP0 M R14 R15 R13
        go_region_held3 (fun W => P W ∧ (W.cell? ⟨g14, 0, none⟩ = some (.int .i64 t14.count) ∧ W.cell? ⟨g14, 1, none⟩ = some (.int .i64 t14.total) ∧ W.cell? ⟨g14, 2, none⟩ = some (.int .i64 t14.depth) ∧ W.cell? ⟨g14, 3, none⟩ = some (.pointer p14)) ∧ (W.cell? ⟨g15, 0, none⟩ = some (.int .i64 t15.count) ∧ W.cell? ⟨g15, 1, none⟩ = some (.int .i64 t15.total) ∧ W.cell? ⟨g15, 2, none⟩ = some (.int .i64 t15.depth) ∧ W.cell? ⟨g15, 3, none⟩ = some (.pointer p15)) ∧ (W.cell? ⟨g13, 0, none⟩ = some (.int .i64 t13.count) ∧ W.cell? ⟨g13, 1, none⟩ = some (.int .i64 t13.total) ∧ W.cell? ⟨g13, 2, none⟩ = some (.int .i64 t13.depth) ∧ W.cell? ⟨g13, 3, none⟩ = some (.pointer p13)))
          (first
            | with_reducible exact PC.out _ HP0.out
            | with_reducible exact PC.out _ hp1.out
            | with_reducible exact PC.out _ hp1b.out
            | with_reducible exact PC.out _ hp2.out
            | with_reducible exact PC.out _ hp3.out
            | (trace_state; fail))
          (first
            | (go_at_call_of 12 (Value.agg #[Value.int .i64 t14.count, Value.int .i64 t14.total, Value.int .i64 t14.depth, Value.pointer p14]); refine (SA.out _ HP0.out).mono ?_; rintro e w7 ⟨rfl, k1⟩; have hp1 := Lib.hid (PN.out _ _ HP0.out k1); have hp1b := Lib.hid (PN.out _ _ hp1.out (below_new w7 (.cells #[.int .i64 0, .int .i64 4] 2))))
            | (go_at_call_of 12 (Value.agg #[Value.int .i64 t15.count, Value.int .i64 t15.total, Value.int .i64 t15.depth, Value.pointer p15]); refine (SB.out _ hp1.out).mono ?_; rintro e w8 ⟨rfl, k2⟩; have hp2 := Lib.hid (PN.out _ _ hp1b.out k2))
            | (go_at_call 35; refine (depth_below _ _ _ _ _).mono ?_; rintro e w9 ⟨rfl, k3⟩; have hp3 := Lib.hid (PN.out _ _ hp2.out k3)))
        all_goals (go_wp2_with fail; go_meet; exact ⟨rfl, PM.out _ hp3.out⟩)
      case rest =>
      obtain ⟨rfl, M2⟩ := hcut
      clear M R13 R14 R15
      have M := M2
      clear M2
      obtain ⟨U0, hU⟩ : ∃ U, wc = U := ⟨_, rfl⟩
      rw [hU] at M ⊢
      clear hU
      have bl := below_new U0 (.cells #[.int .i64 2305843009213693952, .int .i64 2305843009213693952] 2)
      have HS := Lib.hid (sl_two U0 2305843009213693952 2305843009213693952)
      replace M := Lib.hid (M.out.next bl)
      have HK := Lib.hid (of_ok _ 2 [2305843009213693952, 2305843009213693952] _ HS.out.rd vdA HS.out.le HS.out.max)
      clear bl
      go_wp2_with fail
      refine HK.out.mono ?_
      rintro e w1 ⟨t16, p16, hs, rfl, hn, kk⟩
      replace M := Lib.hid (M.out.next kk)
      have bn := below_new w1 (.cells #[.int .i64 t16.count, .int .i64 t16.total, .int .i64 t16.depth, .pointer p16] 27)
      replace M := Lib.hid (M.out.next bn)
      have R16 := Lib.hid (rp_new hn hs.ls)
      clear kk bn hn hs HK HS
      go_upto_region 19 with fail
      obtain ⟨W9, hW⟩ : ∃ W, w1.alloc (.cells #[.int .i64 t16.count, .int .i64 t16.total, .int .i64 t16.depth, .pointer p16] 27) = W := ⟨_, rfl⟩
      obtain ⟨g16, hg⟩ : ∃ g, w1.heap.size = g := ⟨_, rfl⟩
      rw [hW] at M R16 ⊢
      rw [hg] at R16 ⊢
      clear hW hg
      have bl := below_new W9 (.cells #[.int .i64 1] 2)
      have HS := Lib.hid (sl_one W9 1)
      replace M := Lib.hid (M.out.next bl)
      replace R16 := Lib.hid (R16.out.next bl)
      have HK := Lib.hid (of_ok _ 1 [1] _ HS.out.rd vdB HS.out.le HS.out.max)
      clear bl
      go_wp2_with fail
      refine HK.out.mono ?_
      rintro e w1 ⟨t17, p17, hs, rfl, hn, kk⟩
      replace M := Lib.hid (M.out.next kk)
      replace R16 := Lib.hid (R16.out.next kk)
      have bn := below_new w1 (.cells #[.int .i64 t17.count, .int .i64 t17.total, .int .i64 t17.depth, .pointer p17] 27)
      replace M := Lib.hid (M.out.next bn)
      replace R16 := Lib.hid (R16.out.next bn)
      have R17 := Lib.hid (rp_new hn hs.ls)
      clear kk bn hn hs HK HS
      go_upto_region 20 with fail
      obtain ⟨W10, hW⟩ : ∃ W, w1.alloc (.cells #[.int .i64 t17.count, .int .i64 t17.total, .int .i64 t17.depth, .pointer p17] 27) = W := ⟨_, rfl⟩
      obtain ⟨g17, hg⟩ : ∃ g, w1.heap.size = g := ⟨_, rfl⟩
      rw [hW] at M R16 R17 ⊢
      rw [hg] at R17 ⊢
      clear hW hg
      obtain ⟨x0, x1, x2, x3⟩ := R16.out.cells
      obtain ⟨y0, y1, y2, y3⟩ := R17.out.cells
      have HK := Lib.hid (join_rp R16.out vdA R17.out vdB)
      rw [show joinR [2305843009213693952, 2305843009213693952] [1] = ([], 13) by decide] at HK
      go_wp2_with fail
      refine HK.out.mono ?_
      rintro e w1 ⟨tt, pp, hs, rfl, hn, kk⟩
      replace M := Lib.hid (M.out.next kk)
      replace R16 := Lib.hid (R16.out.next kk)
      replace R17 := Lib.hid (R17.out.next kk)
      clear kk hn hs HK x0 x1 x2 x3 y0 y1 y2 y3
      go_upto_region 21 with fail
      obtain ⟨W11, hW⟩ : ∃ W, w1 = W := ⟨_, rfl⟩
      rw [hW] at M R16 R17 ⊢
      clear hW
      obtain ⟨x0, x1, x2, x3⟩ := R16.out.cells
      have bl := below_new W11 (.cells #[.int .i64 2305843009213693952] 2)
      have HS := Lib.hid (sl_one W11 2305843009213693952)
      replace M := Lib.hid (M.out.next bl)
      replace R16 := Lib.hid (R16.out.next bl)
      replace R17 := Lib.hid (R17.out.next bl)
      have HK := Lib.hid (ins_rp R16.out vdA HS.out 1 (by omega))
      rw [show insR [2305843009213693952, 2305843009213693952] 1 [2305843009213693952] = ([], 13) by decide] at HK
      clear bl
      go_wp2_with fail
      refine HK.out.mono ?_
      rintro e w1 ⟨tt, pp, hs, rfl, hn, kk⟩
      replace M := Lib.hid (M.out.next kk)
      replace R16 := Lib.hid (R16.out.next kk)
      replace R17 := Lib.hid (R17.out.next kk)
      clear kk hn hs HK HS x0 x1 x2 x3
      go_upto_region 22 with fail
      obtain ⟨W12, hW⟩ : ∃ W, w1 = W := ⟨_, rfl⟩
      rw [hW] at M R16 R17 ⊢
      clear hW
      obtain ⟨x0, x1, x2, x3⟩ := R16.out.cells
      have bl := below_new W12 (.cells #[.int .i64 0] 2)
      have HS := Lib.hid (sl_one W12 0)
      replace M := Lib.hid (M.out.next bl)
      replace R16 := Lib.hid (R16.out.next bl)
      replace R17 := Lib.hid (R17.out.next bl)
      have HK := Lib.hid (ins_rp R16.out vdA HS.out 1 (by omega))
      rw [show insR [2305843009213693952, 2305843009213693952] 1 [0] = ([2305843009213693952, 0, 2305843009213693952], 0) by decide] at HK
      clear bl
      go_wp2_with fail
      refine HK.out.mono ?_
      rintro e w1 ⟨tt, pp, hs, rfl, hn, kk⟩
      replace M := Lib.hid (M.out.next kk)
      replace R16 := Lib.hid (R16.out.next kk)
      replace R17 := Lib.hid (R17.out.next kk)
      clear kk hn hs HK HS x0 x1 x2 x3
      go_upto_region 23 with fail
      obtain ⟨W13, hW⟩ : ∃ W, w1 = W := ⟨_, rfl⟩
      rw [hW] at M R16 R17 ⊢
      clear hW
      obtain ⟨x0, x1, x2, x3⟩ := R16.out.cells
      have HK := Lib.hid (set_rp R16.out vdA 0 2305843009213693951 (by omega) (by omega) (by omega))
      rw [show setR [2305843009213693952, 2305843009213693952] 0 2305843009213693951 = ([2305843009213693951, 2305843009213693952], 0) by decide] at HK
      go_wp2_with fail
      refine HK.out.mono ?_
      rintro e w1 ⟨t18, p18, hs, rfl, hn, kk⟩
      replace M := Lib.hid (M.out.next kk)
      replace R17 := Lib.hid (R17.out.next kk)
      have bn := below_new w1 (.cells #[.int .i64 t18.count, .int .i64 t18.total, .int .i64 t18.depth, .pointer p18] 27)
      replace M := Lib.hid (M.out.next bn)
      replace R17 := Lib.hid (R17.out.next bn)
      have R18 := Lib.hid (rp_new hn hs)
      clear kk bn hn hs HK R16 x0 x1 x2 x3
      go_upto_region 24 with fail
      obtain ⟨W14, hW⟩ : ∃ W, w1.alloc (.cells #[.int .i64 t18.count, .int .i64 t18.total, .int .i64 t18.depth, .pointer p18] 27) = W := ⟨_, rfl⟩
      obtain ⟨g18, hg⟩ : ∃ g, w1.heap.size = g := ⟨_, rfl⟩
      rw [hW] at M R17 R18 ⊢
      rw [hg] at R18 ⊢
      clear hW hg
      obtain ⟨x0, x1, x2, x3⟩ := R18.out.cells
      have HK := Lib.hid (set_rp R18.out vdC8 1 2305843009213693953 (by omega) (by omega) (by omega))
      rw [show setR [2305843009213693951, 2305843009213693952] 1 2305843009213693953 = ([], 12) by decide] at HK
      go_wp2_with fail
      refine HK.out.mono ?_
      rintro e w1 ⟨t20, p20, hs, rfl, hn, kk⟩
      replace M := Lib.hid (M.out.next kk)
      replace R17 := Lib.hid (R17.out.next kk)
      replace R18 := Lib.hid (R18.out.next kk)
      have bn := below_new w1 (.cells #[.int .i64 t20.count, .int .i64 t20.total, .int .i64 t20.depth, .pointer p20] 27)
      replace M := Lib.hid (M.out.next bn)
      replace R17 := Lib.hid (R17.out.next bn)
      replace R18 := Lib.hid (R18.out.next bn)
      clear kk bn hn hs HK x0 x1 x2 x3
      go_upto_region 25 with fail
      obtain ⟨W15, hW⟩ : ∃ W, w1.alloc (.cells #[.int .i64 t20.count, .int .i64 t20.total, .int .i64 t20.depth, .pointer p20] 27) = W := ⟨_, rfl⟩
      obtain ⟨g20, hg⟩ : ∃ g, w1.heap.size = g := ⟨_, rfl⟩
      rw [hW] at M R17 R18 ⊢
      rw [hg] at ⊢
      clear hW hg
      obtain ⟨x0, x1, x2, x3⟩ := R18.out.cells
      obtain ⟨y0, y1, y2, y3⟩ := R17.out.cells
      have HK := Lib.hid (join_rp R18.out vdC8 R17.out vdB)
      rw [show joinR [2305843009213693951, 2305843009213693952] [1] = ([2305843009213693951, 2305843009213693952, 1], 0) by decide] at HK
      go_wp2_with fail
      refine HK.out.mono ?_
      rintro e w1 ⟨t22, p22, hs, rfl, hn, kk⟩
      replace M := Lib.hid (M.out.next kk)
      have bn := below_new w1 (.cells #[.int .i64 t22.count, .int .i64 t22.total, .int .i64 t22.depth, .pointer p22] 27)
      replace M := Lib.hid (M.out.next bn)
      have R22 := Lib.hid (rp_new hn hs)
      clear kk bn hn hs HK R17 R18 x0 x1 x2 x3 y0 y1 y2 y3
      go_upto_region 26 with fail
      obtain ⟨W16, hW⟩ : ∃ W, w1.alloc (.cells #[.int .i64 t22.count, .int .i64 t22.total, .int .i64 t22.depth, .pointer p22] 27) = W := ⟨_, rfl⟩
      obtain ⟨g22, hg⟩ : ∃ g, w1.heap.size = g := ⟨_, rfl⟩
      rw [hW] at M R22 ⊢
      rw [hg] at R22 ⊢
      clear hW hg
      obtain ⟨x0, x1, x2, x3⟩ := R22.out.cells
      have ht : t22.total = 4611686018427387904 := by rw [← T.sum, R22.out.ls.list]; decide
      rw [ht] at x1
      have HT := Lib.hid (total_below t22.count 4611686018427387904 t22.depth p22 W16)
      go_wp2_with fail
      refine HT.out.mono ?_
      rintro e w1 ⟨rfl, kk⟩
      replace M := Lib.hid (M.out.next kk)
      clear kk R22 HT ht x0 x1 x2 x3
      have HS := Lib.hid (same_lit (t := .nil) (p := none) (c := 0) (f := 0) (w := w1) (show Nd w1 .nil none from rfl) (⟨rfl, trivial⟩ : Ls [] .nil) vd_nil (RdI.nil (A := none)) rfl)
      go_wp2_with fail
      refine HS.out.mono ?_
      rintro e w2 ⟨rfl, kk⟩
      replace M := Lib.hid (M.out.next kk)
      clear kk HS
      go_wp2_with fail
      refine (HL.out _).mono ?_
      rintro e w3 ⟨rfl, kk⟩
      replace M := Lib.hid (M.out.next kk)
      clear kk
      go_wp2_with fail
      go_ret
      exact ⟨rfl, M.out.u⟩
end Go.Proofs.Ytfkjnepafgehiaa
