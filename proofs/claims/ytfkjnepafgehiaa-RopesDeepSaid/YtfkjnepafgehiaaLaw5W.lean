/- The walk of the law RopesDeep. -/
import Derived.Test.YtfkjnepafgehiaaDeepA
namespace Go.Proofs.Ytfkjnepafgehiaa
open Go.RowKit

set_option maxRecDepth 100000 in
set_option maxHeartbeats 8000000 in
theorem law5_back (hL : LivesOk) (n : Nat) (hn : n ≤ 255) (w : World) :
    Calls Try.prog 7 #[.int .u8 n, .bool false] w fun e w' => e = .returned (.bool true) ∧ Below w.heap.size w w' := by
  have HL := Lib.hid hL; clear hL
  have M0 := Lib.hid (L5.start w)
  go_enter Try.func7, Try.ntmps7
  go_wp2_with fail
  go_loopw [6, 7, 8, 9, 10] (fun v f k _ _ wr => ∃ (j : Nat) (J : List Int) (t : T) (p : Option Addr), j ≤ n ∧ k = .int .i64 j ∧ f = .int .i64 0 ∧ J.length = j ∧ Hid (L5 w wr J t p v)) (fun _ _ k _ _ _ => n - (intOf k).toNat)
  case atStart => exact ⟨0, [], .nil, none, Nat.zero_le _, rfl, rfl, rfl, M0⟩
  case round =>
    obtain ⟨j, J, t, p, hj, rfl, rfl, hJl, MJ⟩ := hrel
    by_cases hlt : j < n
    · obtain ⟨q, hq, hq6⟩ : ∃ q : Nat, (j : Int) % 7 = (q : Int) ∧ q ≤ 6 := ⟨j % 7, by omega, by omega⟩
      obtain ⟨r, hr, hr3⟩ : ∃ r : Nat, (j : Int) % 32 = (r : Int) ∧ r ≤ 31 := ⟨j % 32, by omega, by omega⟩
      have hJ0 : J.length < 255 := by omega
      have HX := Lib.hid (sl_one wr (q : Int))
      have HY := Lib.hid (MJ.out.o.next (below_new wr (.cells #[.int .i64 (q : Int)] 2)))
      have HRp := Lib.hid (MJ.out.r.next (below_new wr (.cells #[.int .i64 (q : Int)] 2)))
      have HU := Lib.hid (MJ.out.u.trans ((below_new wr (.cells #[.int .i64 (q : Int)] 2)).mono MJ.out.u.size))
      have hsz := MJ.out.sz
      have HSM := Lib.hid MJ.out.sm
      have hls : J.length + 1 ≤ 1000000 := by omega
      clear MJ
      go_upto_region 12 with fail
      rw [hq]
      go_upto_region 13 with (
        at_builtin
        refine wp_app2 rfl (.tmp 26) (.tmp 28) rfl (w.heap.size + 1) _ J rfl (some ⟨wr.heap.size, 0, none⟩) 1 [(q : Int)] 1 rfl rfl HY.out HX.out (by simp; omega) (by simp; omega) ?_
        intro v2 w2 H2 B2 G2)
      have R2 := Lib.hid (HRp.out.grown HY.out G2.out)
      have hb1 := below_new w2 (.cells #[.int .i64 (q : Int)] 2)
      have R3 := Lib.hid (R2.out.next hb1)
      have O3 := Lib.hid (H2.out.next hb1)
      have U2 : Hid (Below w.heap.size w w2) := Lib.hid (HU.out.trans (B2.out.mono (Nat.le_succ _)))
      have U3 := Lib.hid (U2.out.trans (hb1.mono U2.out.size))
      have HS3 := Lib.hid (sl_one w2 (q : Int))
      clear hb1 U2 HU HRp HX HY H2 B2 G2
      have hq7 : (0 : Int) ≤ (q : Int) ∧ (q : Int) ≤ 6 := by omega
      have hI := ins_any (J.length : Nat) (some ⟨w2.heap.size, 0, none⟩) 1 [(q : Int)] HS3.out.rd HS3.out.le HS3.out.max R3.out.nd R3.out.ls.bal (ls_ok R3.out.ls HSM.out.vd) (by omega)
      rw [R3.out.ls.list, insR_back HSM.out hq7, hJl] at hI
      have HI := Lib.hid hI
      have HSM2 := Lib.hid (HSM.out.back hq7 hJ0)
      clear hI hq7
      obtain ⟨x0, x1, x2, x3⟩ := R2.out.cells
      go_wp2_with fail
      refine HI.out.mono ?_
      rintro e w3 ⟨t3, p3, hs3, rfl, hn3, kk⟩
      have HB3 := Lib.hid ((R3.out.next kk).box)
      have O4 := Lib.hid (O3.out.next kk)
      have U4 := Lib.hid (U3.out.trans (kk.mono U3.out.size))
      have M4 := Lib.hid (L5.set ⟨_, _, _, _, HB3.out⟩ hn3 hs3 O4.out HSM2.out U4.out)
      have hroom : Room w3 w.heap.size := ⟨_, _, _, _, HB3.out⟩
      obtain ⟨a0, a1, a2, a3, f0, f1, f2, f3, f4, f5, f6, f7⟩ := hroom.open_
      clear HB3 hroom kk hs3 hn3 O3 O4 U3 U4 R2 R3 HI HS3 x0 x1 x2 x3
      go_upto_region 14 with fail
      obtain ⟨W4, hW4⟩ : ∃ W, ((((w3.setCell ⟨w.heap.size, 0, none⟩ (.int .i64 t3.count)).setCell ⟨w.heap.size, 1, none⟩ (.int .i64 t3.total)).setCell ⟨w.heap.size, 2, none⟩ (.int .i64 t3.depth)).setCell ⟨w.heap.size, 3, none⟩ (.pointer p3)) = W := ⟨_, rfl⟩
      rw [hW4] at M4 ⊢
      have hJ1 : (J ++ [(q : Int)]).length = j + 1 := by rw [List.length_append, List.length_singleton, hJl]
      clear hW4 a0 a1 a2 a3 f0 f1 f2 f3 f4 f5 f6 f7 HSM HSM2 hq hls hsz
      by_cases h31 : r = 31
      · have e1 : ((j : Int) % 32 == 31) = true := by rw [hr, h31]; rfl
        clear hr h31
        obtain ⟨A, c, rfl, hs⟩ := M4.out.o.sl
        obtain ⟨z0, z1, z2, z3⟩ := M4.out.r.cells
        have HS := Lib.hid (M4.out.r.same (c := c) (f := 0) M4.out.sm.vd hs.rd rfl)
        have HJ1 := Lib.hid hJ1
        obtain ⟨J2, hJ2⟩ : ∃ J2, J ++ [(q : Int)] = J2 := ⟨_, rfl⟩
        rw [hJ2] at HS HJ1 M4 ⊢
        clear hs hJ1 hJ2 hr3 hq6
        go_wp2_with fail
        refine HS.out.mono ?_
        rintro e w5 ⟨rfl, kk⟩
        have M5 := Lib.hid (M4.out.next kk)
        clear kk HS M4 z0 z1 z2 z3
        go_wp2_with fail
        go_roundw
        case rel => exact ⟨j + 1, J2, t3, p3, by omega, by go_num, rfl, HJ1.out, M5⟩
        case measure => simp [intOf]; omega
      · have e1 : ((j : Int) % 32 == 31) = false := by rw [hr]; simp; omega
        clear hr h31
        have HJ1 := Lib.hid hJ1
        clear hJ1 hr3 hq6
        go_wp2_with fail
        go_roundw
        case rel => exact ⟨j + 1, _, t3, p3, by omega, by go_num, rfl, HJ1.out, M4⟩
        case measure => simp [intOf]; omega
    · obtain ⟨A, c, rfl, hs⟩ := MJ.out.o.sl
      obtain ⟨z0, z1, z2, z3⟩ := MJ.out.r.cells
      have HS := Lib.hid (MJ.out.r.same (c := c) (f := 0) MJ.out.sm.vd hs.rd rfl)
      have HJl := Lib.hid hJl
      have hl255 : J.length ≤ 255 := MJ.out.sm.len
      clear hs hJl
      go_wp2_with fail
      refine HS.out.mono ?_
      rintro e w5 ⟨rfl, kk⟩
      have M5 := Lib.hid (MJ.out.next kk)
      clear kk HS MJ z0 z1 z2 z3
      go_wp2_with fail
      go_loopw [6, 7, 11] (fun v f k wr => ∃ (j : Nat) (J : List Int) (t : T) (p : Option Addr), j ≤ 255 ∧ k = .int .i64 j ∧ f = .int .i64 0 ∧ Hid (L5 w wr J t p v)) (fun _ _ k _ => 256 - (intOf k).toNat)
      case atStart => exact ⟨0, J, t, p, Nat.zero_le _, rfl, rfl, M5⟩
      case round =>
        obtain ⟨j, J2, t2, p2, hj, rfl, rfl, MJ⟩ := hrel
        have hl2 : J2.length ≤ 255 := MJ.out.sm.len
        obtain ⟨A2, c2, rfl, hs⟩ := MJ.out.o.sl
        obtain ⟨x0, x1, x2, x3⟩ := MJ.out.r.cells
        by_cases hlt : j < J2.length
        · obtain ⟨r, hr, hr3⟩ : ∃ r : Nat, (j : Int) % 32 = (r : Int) ∧ r ≤ 31 := ⟨j % 32, by omega, by omega⟩
          have hR := rem_any j 1 MJ.out.r.nd MJ.out.r.ls.bal (ls_ok MJ.out.r.ls MJ.out.sm.vd) (by omega)
          rw [MJ.out.r.ls.list, remR_one hlt] at hR
          have HR := Lib.hid hR
          have hlc : J2.length ≤ c2 := hs.le
          have hcm : c2 ≤ 9223372036854775807 := hs.max
          clear hR hs
          go_wp2_with fail
          refine HR.out.mono ?_
          rintro e w3 ⟨t3, p3, hs3, rfl, hn3, kk⟩
          have hbox := (MJ.out.r.next kk).box
          have hroom : Room w3 w.heap.size := ⟨_, _, _, _, hbox⟩
          have R4 := Lib.hid (show Rp _ w.heap.size (J2.take j ++ J2.drop (j + 1)) t3 p3 from ⟨heap_set4 hroom, hn3.set4 hroom, hs3⟩)
          have S4 := Lib.hid ((MJ.out.o.next kk).set4 (a0 := .int .i64 t3.count) (a1 := .int .i64 t3.total) (a2 := .int .i64 t3.depth) (a3 := .pointer p3) (Nat.lt_succ_self w.heap.size)).sl_of
          have U4 := Lib.hid (below_set4 (a0 := .int .i64 t3.count) (a1 := .int .i64 t3.total) (a2 := .int .i64 t3.depth) (a3 := .pointer p3) (MJ.out.u.trans (kk.mono MJ.out.u.size)) (Nat.le_refl _))
          have HSM := Lib.hid (MJ.out.sm.cut j)
          obtain ⟨a0, a1, a2, a3, f0, f1, f2, f3, f4, f5, f6, f7⟩ := hroom.open_
          clear hbox hroom hs3 hn3 kk MJ HR x0 x1 x2 x3
          go_upto_region 22 with fail
          obtain ⟨W4, hW4⟩ : ∃ W, ((((w3.setCell ⟨w.heap.size, 0, none⟩ (.int .i64 t3.count)).setCell ⟨w.heap.size, 1, none⟩ (.int .i64 t3.total)).setCell ⟨w.heap.size, 2, none⟩ (.int .i64 t3.depth)).setCell ⟨w.heap.size, 3, none⟩ (.pointer p3)) = W := ⟨_, rfl⟩
          rw [hW4] at R4 S4 U4 ⊢
          clear hW4 a0 a1 a2 a3 f0 f1 f2 f3 f4 f5 f6 f7
          have hsz : w.heap.size + 1 ≤ W4.heap.size := heap_lt R4.out.box
          have hti : (J2.take j).length = j := by rw [List.length_take]; omega
          obtain ⟨q, hq⟩ : ∃ q : Nat, j + 1 = q := ⟨_, rfl⟩
          have hql : q ≤ J2.length := by omega
          have hdl : (J2.drop q).length = J2.length - q := List.length_drop
          have HO : Hid (OwnI ((W4.alloc (.cells #[] 2)).drew) W4.heap.size (.slice (some ⟨W4.heap.size, 0, none⟩) 0 0) []) := Lib.hid (made0 W4)
          have HB : Hid (Below W4.heap.size W4 ((W4.alloc (.cells #[] 2)).drew)) := Lib.hid ((Below.refl W4.heap.size W4).alloc (Nat.le_refl _) _).drew
          have HS0 := Lib.hid ((S4.out.below HB.out).head j)
          obtain ⟨B2, hB2⟩ : ∃ B2, (if c2 = q then A2 else A2.map fun x => x.add q) = B2 := ⟨_, rfl⟩
          have HP : Hid (∀ w', Below W4.heap.size W4 w' → SlI w' B2 (c2 - q) (J2.drop q)) := Lib.hid (fun w' hb => by
            have := (S4.out.below hb).rest q hql
            rw [hB2] at this
            exact this)
          have HQ := Lib.hid hq
          have hwq : IntKind.i64.wrap ((j : Int) + 1) = (q : Int) := by rw [show (j : Int) + 1 = ((j + 1 : Nat) : Int) by omega, HQ.out]; exact IntWalk.i64_in _ (by omega)
          have z0 : (0 : Int) ≤ (j : Int) := by omega
          have z1 : (j : Int) ≤ (c2 : Int) := by omega
          have z2 : (0 : Int) ≤ (q : Int) := by omega
          have z3 : (q : Int) ≤ (J2.length : Int) := by omega
          clear hq
          go_region_law (first
              | (refine step_app rfl (.tmp 69) (.tmp 72) rfl W4.heap.size _ [] rfl A2 c2 (J2.take j) j rfl hti.symm HO.out HS0.out (by simp; omega) HB.out.size ?_
                 intro v1 w5 H1 B1)
              | (refine step_app rfl (.tmp 73) (.tmp 77) rfl W4.heap.size v1 ([] ++ J2.take j) rfl B2 (c2 - q) (J2.drop q) (J2.length - q) rfl hdl.symm H1.out (HP.out _ (HB.out.trans B1.out)) (by simp only [List.nil_append]; omega) (HB.out.trans B1.out).size ?_
                 intro v3 w6 H3 B3))
          have hbb := (HB.out.trans B1.out).trans B3.out
          have ho := H3.out
          rw [List.nil_append, ← HQ.out] at ho
          have M6 := Lib.hid (show L5 w w6 (J2.take j ++ J2.drop (j + 1)) t3 p3 v3 from ⟨R4.out.next hbb, ho.le hsz, HSM.out, U4.out.trans (hbb.mono U4.out.size)⟩)
          obtain ⟨J3, hJ3⟩ : ∃ J3, J2.take j ++ J2.drop (j + 1) = J3 := ⟨_, rfl⟩
          rw [hJ3] at M6
          clear hbb ho hJ3 R4 S4 U4 HSM hti hql hdl HO HB HS0 hB2 HP HQ hwq z0 z1 z2 z3 H1 B1 H3 B3 hsz
          by_cases h31 : r = 31
          · have e1 : ((j : Int) % 32 == 31) = true := by rw [hr, h31]; rfl
            clear hr h31 hr3
            obtain ⟨A3, c3, rfl, hs⟩ := M6.out.o.sl
            obtain ⟨y0, y1, y2, y3⟩ := M6.out.r.cells
            have HS := Lib.hid (M6.out.r.same (c := c3) (f := 0) M6.out.sm.vd hs.rd rfl)
            clear hs
            go_wp2_with fail
            refine HS.out.mono ?_
            rintro e w7 ⟨rfl, kk⟩
            have M7 := Lib.hid (M6.out.next kk)
            clear kk HS M6 y0 y1 y2 y3
            go_wp2_with fail
            go_roundw
            case rel => exact ⟨j + 1, J3, t3, p3, by omega, by go_num, rfl, M7⟩
            case measure => simp [intOf]; omega
          · have e1 : ((j : Int) % 32 == 31) = false := by rw [hr]; simp; omega
            clear hr h31 hr3
            go_wp2_with fail
            go_roundw
            case rel => exact ⟨j + 1, J3, t3, p3, by omega, by go_num, rfl, M6⟩
            case measure => simp [intOf]; omega
        · have HS := Lib.hid (MJ.out.r.same (c := c2) (f := 0) MJ.out.sm.vd hs.rd rfl)
          clear hs
          go_wp2_with fail
          refine HS.out.mono ?_
          rintro e w7 ⟨rfl, kk⟩
          have U7 := Lib.hid (MJ.out.u.trans (kk.mono MJ.out.u.size))
          clear kk HS MJ x0 x1 x2 x3
          go_wp2_with fail
          refine (HL.out _).mono ?_
          rintro e w8 ⟨rfl, kk⟩
          have HBz := Lib.hid (U7.out.trans (kk.mono U7.out.size))
          clear kk
          go_wp2_with fail
          go_ret
          exact ⟨rfl, HBz.out⟩
end Go.Proofs.Ytfkjnepafgehiaa
