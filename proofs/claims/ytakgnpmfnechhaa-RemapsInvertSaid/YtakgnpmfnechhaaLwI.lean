/- The law RemapsInvert. -/
import Derived.Test.YtakgnpmfnechhaaTwoW
import Derived.Test.YtakgnpmfnechhaaLwC
namespace Go.Proofs.Ytakgnpmfnechhaa
open Go.RowKit

set_option maxRecDepth 100000 in
set_option maxHeartbeats 16000000 in
theorem law6_any {w : World} {A : Option Addr} {c : Nat} {ss : List St} (N z0 z1 z2 : Nat) (hN : N ≤ 255) (hs : RdQ w w.heap.size A ss) (hc : ss.length ≤ c) (hcm : c ≤ 9223372036854775807) (h0 : z0 ≤ 255) (h1 : z1 ≤ 255) (h2 : z2 ≤ 255) :
    Calls Try.prog 6 #[.agg #[.int .u8 N, .slice A ss.length c], .agg #[.int .u8 z0, .int .u8 z1, .int .u8 z2]] w (YesB w) := by
  obtain ⟨n0, hn0⟩ : ∃ n, N % 31 = n := ⟨_, rfl⟩
  have hn30 : n0 ≤ 30 := by omega
  obtain ⟨a, hea⟩ : ∃ a, aft (idL n0) ss = a := ⟨_, rfl⟩
  have va : Vm n0 a := by rw [← hea]; exact aft_vm (idL_vm (by omega)) (by rw [idL_len]; omega)
  have hla : a.length ≤ 90 := by have := @aft_len (idL n0) ss; rw [hea, idL_len] at this; omega
  obtain ⟨na, hna⟩ : ∃ n, a.length = n := ⟨_, rfl⟩
  obtain ⟨dn, hdn⟩ : ∃ d, (goneL n0 a).length = d := ⟨_, rfl⟩
  have hdn2 : dn ≤ 30 := by have := gone_len n0 a; omega
  have hB3 := below_new w (.cells #[.int .u8 N, .slice A ss.length c] 54)
  have hB4 := hB3.trans ((below_new (w.alloc (.cells #[.int .u8 N, .slice A ss.length c] 54)) (.cells #[.int .u8 z0, .int .u8 z1, .int .u8 z2] 58)).mono hB3.size)
  have K := of_M (w := (w.alloc (.cells #[.int .u8 N, .slice A ss.length c] 54)).alloc (.cells #[.int .u8 z0, .int .u8 z1, .int .u8 z2] 58)) N hN (hs.next hB4) hc hcm hn0 ((congrArg List.length hea).trans hna)
  rw [hea] at K
  have K := Lib.hid K
  have M0 : Hid (M6 w ((w.alloc (.cells #[.int .u8 N, .slice A ss.length c] 54)).alloc (.cells #[.int .u8 z0, .int .u8 z1, .int .u8 z2] 58)) [] [] (w.heap.size + 1) (.cells #[.int .u8 z0, .int .u8 z1, .int .u8 z2] 58)) := Lib.hid ⟨(MM.start w).next hB4, new_at _ (by simp)⟩
  rw [hna] at hla
  have HNA := Lib.hid hna
  have HDN := Lib.hid hdn
  have HVA := Lib.hid va
  clear hs hB3 hB4 hn0 hea hna hdn va
  go_enter Try.func6, Try.ntmps6
  go_wp2_with fail
  refine K.out.mono ?_
  rintro e w5 ⟨A5, c5, rfl, hs5, _, hb⟩
  have hN5 := (M0.out.next hb).pushM (o := n0) (n := na) HNA.out hs5
  have M := Lib.hid hN5
  obtain ⟨g5, eg⟩ : ∃ g : Nat, w5.heap.size = g := ⟨_, rfl⟩
  obtain ⟨V5, ev⟩ : ∃ V : World, w5.alloc (.cells #[.int .i64 n0, .slice A5 na c5] 24) = V := ⟨_, rfl⟩
  rw [eg, ev] at M
  clear K hs5 hb hN5 M0
  obtain ⟨x0, x1⟩ := (M.out.at 0 rfl).cells_n HNA.out
  go_wp2_with fail
  clear eg ev x0 x1
  have K := invert_ok n0 (M.out.at 0 rfl).sl HVA.out
  rw [HNA.out] at K
  have K := Lib.hid K
  refine (K.out).mono ?_
  intro e w6 h
  obtain ⟨A6, rfl, hs, hf, hb⟩ := map_at h (n := n0) (invL_len n0 a)
  have hN := (M.out.next hb).pushM (o := na) (n := n0) (invL_len n0 a) hs
  obtain ⟨g6, eg⟩ : ∃ g : Nat, w6.heap.size = g := ⟨_, rfl⟩
  obtain ⟨V6, ev⟩ : ∃ V : World, w6.alloc (.cells #[.int .i64 na, .slice A6 n0 n0] 24) = V := ⟨_, rfl⟩
  rw [eg, ev] at hN
  replace M := Lib.hid hN
  clear h hs hf hb hN
  clear K
  obtain ⟨x0, x1⟩ := (M.out.at 1 rfl).cells_n HNA.out
  go_wp2_with fail
  clear eg ev x0 x1
  have K := gone_ok n0 (M.out.at 1 rfl).sl HVA.out
  rw [HNA.out] at K
  have K := Lib.hid K
  refine (K.out).mono ?_
  intro e w8 h
  obtain ⟨A8, rfl, hs, hb⟩ := rowX_at h (n := dn) HDN.out
  have hN := (M.out.next hb).pushR hs
  replace M := Lib.hid hN
  clear h hs hb hN
  clear K
  have H0 : Hid (TwI w8 w8 (.slice none 0 0) (.slice none 0 0) (invL 0 a) (goneL 0 a)) := Lib.hid (TwI.start w8)
  go_wp2_with fail
  go_loopw [10, 11, 12] (fun x y v wr => ∃ k : Nat, k ≤ n0 ∧ v = .int .i64 k ∧ Hid (TwI w8 wr x y (invL k a) (goneL k a))) (fun _ _ v _ => n0 - (intOf v).toNat)
  case atStart => exact ⟨0, Nat.zero_le _, rfl, H0⟩
  case round =>
    obtain ⟨k, hk, rfl, HI⟩ := hrel
    clear H0
    have N5 := M.out.next HI.out.u
    obtain ⟨x0, x1⟩ := (N5.at 1 rfl).cells_n HNA.out
    by_cases hlt : k < n0
    · obtain ⟨q, hq⟩ : ∃ q, atL a k = q := ⟨_, rfl⟩
      obtain ⟨y, hh, hat, hA⟩ := at_ways HVA.out hq
      have K1 := at_any c5 (N5.at 1 rfl).sl.rd (by rw [HNA.out]; omega) (k : Int)
      rw [hq, HNA.out] at K1
      have K2 := at_map n0 (N5.at 1 rfl).sl (k : Int)
      rw [hat, HNA.out] at K2
      have hi1 : invL (k + 1) a = invL k a ++ [q] := by rw [← hq]; exact mk_succ _ _
      have hg1 := gone_succ k a
      have hqm : q < 0 ↔ (k : Int) ∉ a := by rw [← hq]; exact atL_neg
      have hil : (invL k a).length = k := invL_len k a
      have hgl := gone_len k a
      have K1 := Lib.hid K1
      have K2 := Lib.hid K2
      have HI1 := Lib.hid hi1
      obtain ⟨X, hX⟩ : ∃ X, invL k a = X := ⟨_, rfl⟩
      obtain ⟨Y, hY⟩ : ∃ Y, goneL k a = Y := ⟨_, rfl⟩
      rw [hX] at HI HI1 hil
      rw [hY] at HI hg1 hgl
      by_cases hq0 : q < 0
      · have hya : y = 0 ∧ hh = 11 := by omega
        obtain ⟨rfl, rfl⟩ := hya
        rw [if_neg (hqm.1 hq0)] at hg1
        have HG1 := Lib.hid hg1
        clear hq hat hA hi1 hg1 hqm hX hY N5
        go_wp2_with fail
        refine K1.out.mono ?_
        rintro e w9 ⟨rfl, rfl⟩
        go_wp2_with fail
        refine K2.out.mono ?_
        rintro e w10 ⟨rfl, hb⟩
        have HT := Lib.hid ((HI.out.next hb).next (below_new w10 (.cells #[.int .i64 q] 3)))
        have hk0 := cell_of_row _ _ 0 _ 3 (0, 0) (heap_alloc_new w10 (.cells #[.int .i64 q] 3))
        have HK0 := Lib.hid hk0
        clear K1 K2 hb x0 x1 hk0
        go_wp2_with (first
          | (at_builtin
             refine wp_app3 rfl (.tmp 53) (.tmp 55) rfl w8.heap.size _ X rfl w10.heap.size 1 q rfl HK0.out HT.out.a (by omega) HT.out.u.size ?_
             intro x' w11 H3 B3 G3 A3
             have HT2 := Lib.hid ((HT.out.putA H3.out B3.out G3.out A3.out).next (below_new w11 (.cells #[.int .i64 k] 3)))
             have HK1 := Lib.hid (cell_of_row _ _ 0 _ 3 (0, 0) (heap_alloc_new w11 (.cells #[.int .i64 k] 3)))
             clear H3 B3 G3 A3 HT HK0)
          | (at_builtin
             refine wp_app3 rfl (.tmp 59) (.tmp 61) rfl w8.heap.size _ Y rfl w11.heap.size 1 (k : Int) rfl HK1.out HT2.out.b (by omega) HT2.out.u.size ?_
             intro y' w12 H3 B3 G3 A3))
        have HN : Hid (TwI w8 w12 x' y' (invL (k + 1) a) (goneL (k + 1) a)) := Lib.hid (by rw [HI1.out, HG1.out]; exact HT2.out.putB H3.out B3.out G3.out A3.out)
        clear H3 B3 G3 A3 HT2 HK1
        go_roundw
        case rel => exact ⟨k + 1, by omega, by go_num, HN⟩
        case measure => first | (simp [intOf]; done) | (simp [intOf]; omega)
      · have hya : y = q ∧ hh = 0 := by omega
        obtain ⟨rfl, rfl⟩ := hya
        rw [if_pos (Decidable.not_not.1 fun h => hq0 (hqm.2 h)), List.append_nil] at hg1
        have HG1 := Lib.hid hg1
        clear hq hat hA hi1 hg1 hqm hX hY N5
        go_wp2_with fail
        refine K1.out.mono ?_
        rintro e w9 ⟨rfl, rfl⟩
        go_wp2_with fail
        refine K2.out.mono ?_
        rintro e w10 ⟨rfl, hb⟩
        have HT := Lib.hid ((HI.out.next hb).next (below_new w10 (.cells #[.int .i64 y] 3)))
        have hk0 := cell_of_row _ _ 0 _ 3 (0, 0) (heap_alloc_new w10 (.cells #[.int .i64 y] 3))
        have HK0 := Lib.hid hk0
        clear K1 K2 hb x0 x1 hk0
        go_wp2_with (
          at_builtin
          refine wp_app3 rfl (.tmp 53) (.tmp 55) rfl w8.heap.size _ X rfl w10.heap.size 1 y rfl HK0.out HT.out.a (by omega) HT.out.u.size ?_
          intro x' w11 H3 B3 G3 A3)
        have HN : Hid (TwI w8 w11 x' u11 (invL (k + 1) a) (goneL (k + 1) a)) := Lib.hid (by rw [HI1.out, HG1.out]; exact HT.out.putA H3.out B3.out G3.out A3.out)
        clear H3 B3 G3 A3 HT HK0
        go_roundw
        case rel => exact ⟨k + 1, by omega, by go_num, HN⟩
        case measure => first | (simp [intOf]; done) | (simp [intOf]; omega)
    · obtain rfl : k = n0 := by omega
      obtain ⟨A10, c10, rfl, hs10⟩ := own_sl_n HI.out.a (invL_len k a)
      obtain ⟨A11, c11, rfl, hs11⟩ := own_sl_n HI.out.b HDN.out
      replace M := Lib.hid ((N5.pushR hs10).pushR hs11)
      clear hs10 hs11 HI N5
      obtain ⟨x0, x1⟩ := (M.out.at 0 rfl).cells_n (invL_len k a)
      obtain ⟨y0, y1⟩ := (M.out.at 1 rfl).cells_n HNA.out
      go_wp2_with fail
      clear x0 x1 y0 y1
      have K := same_any na 0 c10 (M.out.at 0 rfl).sl.rd (M.out.row 1 rfl).rd (by rw [invL_len]; omega)
      rw [invL_len] at K
      have K := Lib.hid K
      refine (K.out).mono ?_
      rintro e s1 ⟨rfl, hb⟩
      replace M := Lib.hid (M.out.next hb)
      clear hb
      clear K
      go_wp2_with fail
      have K := list_b c11 0 (M.out.row 2 rfl).rd (M.out.row 0 rfl).rd (by rw [HDN.out]; omega)
      rw [HDN.out] at K
      have K := Lib.hid K
      refine (K.out).mono ?_
      rintro e s2 ⟨rfl, hb⟩
      replace M := Lib.hid (M.out.next hb)
      clear hb
      clear K
      obtain ⟨p, hp⟩ : ∃ p : Nat, z0 % (k + 1) = p := ⟨_, rfl⟩
      obtain ⟨m, hm⟩ : ∃ m : Nat, z1 % (k - p + 1) = m := ⟨_, rfl⟩
      obtain ⟨t, ht⟩ : ∃ t : Nat, z2 % (k - m + 1) = t := ⟨_, rfl⟩
      have hp2 : p ≤ k := by rw [← hp]; have := Nat.mod_lt z0 (show 0 < k + 1 by omega); omega
      have hm2 : p + m ≤ k := by have := Nat.mod_lt z1 (show 0 < k - p + 1 by omega); omega
      have ht2 : t ≤ k - m := by have := Nat.mod_lt z2 (show 0 < k - m + 1 by omega); omega
      have ep : (z0 : Int) % ((k : Int) + 1) = (p : Int) := by rw [← hp, Int.natCast_emod]; simp
      have em : (z1 : Int) % ((k : Int) - (p : Int) + 1) = (m : Int) := by
        rw [← hm, Int.natCast_emod]
        congr 1
        omega
      have et : (z2 : Int) % ((k : Int) - (m : Int) + 1) = (t : Int) := by
        rw [← ht, Int.natCast_emod]
        congr 1
        omega
      have q0 : s2.cell? ⟨w.heap.size + 1, 0, none⟩ = some (.int .u8 z0) := cell_of_row _ _ 0 _ 58 (0, 0) M.out.b3
      have q1 : s2.cell? ⟨w.heap.size + 1, 1, none⟩ = some (.int .u8 z1) := cell_of_row _ _ 1 _ 58 (0, 0) M.out.b3
      have q2 : s2.cell? ⟨w.heap.size + 1, 2, none⟩ = some (.int .u8 z2) := cell_of_row _ _ 2 _ 58 (0, 0) M.out.b3
      clear hp hm ht
      obtain ⟨x0, x1⟩ := (M.out.at 1 rfl).cells_n HNA.out
      go_wp2_with fail
      clear x0 x1 q0 q1 q2
      have K := Lib.hid (mkMov_ok (w := s2) hm2 ht2 (show k ≤ 4096 by omega))
      have hL1 : (movL (idL k) p m t).length = k := by rw [movL_len, idL_len]
      have hL2 : (movL (idL k) t m p).length = k := by rw [movL_len, idL_len]
      have hc3 : cmpM k (movL (idL k) p m t) k (movL (idL k) t m p) = (((k : Int), idL k), 0) := by
        rw [cmp_ok (idL_vm (by omega)).mov (by rw [hL1]; exact (idL_vm (by omega)).mov) hL1, mov_cmp hm2 ht2]
      have hi3 : invL k (movL (idL k) p m t) = movL (idL k) t m p := mov_inv (by omega) hm2 ht2
      have hv3 : Vm k (movL (idL k) p m t) := (idL_vm (by omega)).mov
      have K2 := Lib.hid (fun W => mkMov_ok (w := W) (show t + m ≤ k by omega) (show p ≤ k - m by omega) (show k ≤ 4096 by omega))
      have HL1 := Lib.hid hL1
      have HL2 := Lib.hid hL2
      have HC3 := Lib.hid hc3
      have HI3 := Lib.hid hi3
      have HV3 := Lib.hid hv3
      generalize movL (idL k) p m t = a1 at *
      generalize movL (idL k) t m p = b1 at *
      clear hL1 hL2 hc3 hi3 hv3 hm2 ht2 hp2
      refine (K.out).mono ?_
      intro e w19 h
      obtain ⟨A19, rfl, hs, hf, hb⟩ := map_at h (n := k) HL1.out
      have hN := (M.out.next hb).pushM (o := k) (n := k) HL1.out hs
      obtain ⟨g19, eg⟩ : ∃ g : Nat, w19.heap.size = g := ⟨_, rfl⟩
      obtain ⟨V19, ev⟩ : ∃ V : World, w19.alloc (.cells #[.int .i64 k, .slice A19 k k] 24) = V := ⟨_, rfl⟩
      rw [eg, ev] at hN
      replace M := Lib.hid hN
      clear h hs hf hb hN
      clear K
      obtain ⟨x0, x1⟩ := (M.out.at 2 rfl).cells_n HNA.out
      go_wp2_with fail
      clear eg ev x0 x1 ep em et
      refine (K2.out _).mono ?_
      intro e w20 h
      obtain ⟨A20, rfl, hs, hf, hb⟩ := map_at h (n := k) HL2.out
      have hN := (M.out.next hb).pushM (o := k) (n := k) HL2.out hs
      obtain ⟨g20, eg⟩ : ∃ g : Nat, w20.heap.size = g := ⟨_, rfl⟩
      obtain ⟨V20, ev⟩ : ∃ V : World, w20.alloc (.cells #[.int .i64 k, .slice A20 k k] 24) = V := ⟨_, rfl⟩
      rw [eg, ev] at hN
      replace M := Lib.hid hN
      clear h hs hf hb hN
      clear K2
      obtain ⟨x0, x1⟩ := (M.out.at 1 rfl).cells_n HL1.out
      obtain ⟨y0, y1⟩ := (M.out.at 0 rfl).cells_n HL2.out
      go_wp2_with fail
      clear eg ev x0 x1 y0 y1
      have K := compose_any k k (M.out.at 1 rfl).sl (M.out.at 0 rfl).sl
      rw [HC3.out, HL1.out, HL2.out] at K
      have K := Lib.hid K
      refine (K.out).mono ?_
      intro e w21 h
      obtain ⟨A21, rfl, hs, hf, hb⟩ := map_at h (n := k) (idL_len k)
      have hN := (M.out.next hb).pushM (o := k) (n := k) (idL_len k) hs
      obtain ⟨g21, eg⟩ : ∃ g : Nat, w21.heap.size = g := ⟨_, rfl⟩
      obtain ⟨V21, ev⟩ : ∃ V : World, w21.alloc (.cells #[.int .i64 k, .slice A21 k k] 24) = V := ⟨_, rfl⟩
      rw [eg, ev] at hN
      replace M := Lib.hid hN
      clear h hs hf hb hN
      clear K
      obtain ⟨x0, x1⟩ := (M.out.at 2 rfl).cells_n HL1.out
      go_wp2_with fail
      clear eg ev x0 x1
      have K := invert_ok k (M.out.at 2 rfl).sl HV3.out
      rw [HL1.out, HI3.out] at K
      have K := Lib.hid K
      refine (K.out).mono ?_
      intro e w23 h
      obtain ⟨A23, rfl, hs, hf, hb⟩ := map_at h (n := k) HL2.out
      have hN := (M.out.next hb).pushM (o := k) (n := k) HL2.out hs
      obtain ⟨g23, eg⟩ : ∃ g : Nat, w23.heap.size = g := ⟨_, rfl⟩
      obtain ⟨V23, ev⟩ : ∃ V : World, w23.alloc (.cells #[.int .i64 k, .slice A23 k k] 24) = V := ⟨_, rfl⟩
      rw [eg, ev] at hN
      replace M := Lib.hid hN
      clear h hs hf hb hN
      clear K
      go_upto_region 26 with fail
      clear eg ev
      obtain ⟨P, hP⟩ : ∃ P : World → Prop, (fun U => Below V23.heap.size V23 U) = P := ⟨_, rfl⟩
      have PV := Lib.hid (show ∀ U, P U → Below V23.heap.size V23 U from fun U h => by rw [← hP] at h; exact h)
      have PN := Lib.hid (show ∀ U U', Hid (P U) → Below U.heap.size U U' → P U' from fun U U' h kk => by
        have h := h.out
        rw [← hP] at h ⊢
        exact h.trans (kk.mono h.size))
      have HP0 : Hid (P V23.drew) := Lib.hid (by rw [← hP]; exact (Below.refl _ _).drew)
      have PC := Lib.hid (show ∀ U, Hid (P U) → (U.cell? ⟨g23, 0, none⟩ = some (.int .i64 k) ∧ U.cell? ⟨g23, 1, none⟩ = some (.slice A23 k k) ∧ U.cell? ⟨g5, 0, none⟩ = some (.int .i64 k) ∧ U.cell? ⟨g20, 1, none⟩ = some (.slice A20 k k) ∧ U.cell? ⟨g21, 0, none⟩ = some (.int .i64 k) ∧ U.cell? ⟨g21, 1, none⟩ = some (.slice A21 k k)) from fun U h => by
        have N := M.out.next (PV.out U h.out)
        obtain ⟨x0, x1⟩ := (N.at 0 rfl).cells_n HL2.out
        obtain ⟨y0, y1⟩ := (N.at 1 rfl).cells_n (idL_len k)
        obtain ⟨z0, z1⟩ := (N.at 2 rfl).cells_n HL2.out
        obtain ⟨u0, u1⟩ := (N.at 5 rfl).cells_n HNA.out
        exact ⟨x0, x1, u0, z1, y0, y1⟩)
      have C1 := Lib.hid (show ∀ U, Hid (P U) → Calls Try.prog 18 #[.agg #[.int .i64 k, .slice A23 k k], .int .i64 0, .int .i64 k, .slice A20 k k, .int .i64 0] U (YesB U) from fun U h => by
        have N := M.out.next (PV.out U h.out)
        have K := same_any k 0 k (N.at 0 rfl).sl.rd (N.at 2 rfl).sl.rd (by rw [HL2.out]; omega)
        rwa [HL2.out] at K)
      have CS := Lib.hid (show ∀ U, Hid (P U) → Calls Try.prog 25 #[.int .i64 k] U (RowN k (idL k) U) from fun U _ => refSame_n k (by omega) U)
      have C2 := Lib.hid (show ∀ U B' d', Hid (P U) → SlI U B' d' (idL k) → Calls Try.prog 18 #[.agg #[.int .i64 k, .slice A21 k k], .int .i64 0, .int .i64 k, .slice B' k d', .int .i64 0] U (YesB U) from fun U B' d' h hs => by
        have N := M.out.next (PV.out U h.out)
        have K := same_any k 0 d' (N.at 1 rfl).sl.rd hs.rd (by rw [idL_len]; omega)
        rwa [idL_len] at K)
      have CV := Lib.hid (show ∀ U, Hid (P U) → Calls Try.prog 9 #[] U (YesB U) from fun U _ => lives_any U)
      clear hP
      go_region_held3 (fun U => U.cell? ⟨g23, 0, none⟩ = some (.int .i64 k) ∧ U.cell? ⟨g23, 1, none⟩ = some (.slice A23 k k) ∧ U.cell? ⟨g5, 0, none⟩ = some (.int .i64 k) ∧ U.cell? ⟨g20, 1, none⟩ = some (.slice A20 k k) ∧ U.cell? ⟨g21, 0, none⟩ = some (.int .i64 k) ∧ U.cell? ⟨g21, 1, none⟩ = some (.slice A21 k k))
        (with_reducible exact PC.out _ (by assumption))
        (first
          | (go_at_call 18; (with_reducible refine (C1.out _ (by assumption)).mono ?_); rintro e x6 ⟨rfl, kk⟩; have HQ := Lib.hid (PN.out _ _ (by assumption) kk); (try replace HSs := Lib.hid (HSs.out.next kk)); clear kk)
          | (go_at_call 25; (with_reducible refine (CS.out _ (by assumption)).mono ?_); rintro e x7 ⟨A26, c26, rfl, hs26, _, kk⟩; have HQ := Lib.hid (PN.out _ _ (by assumption) kk); have HSs := Lib.hid hs26; clear kk hs26)
          | (go_at_call 18; (with_reducible refine (C2.out _ _ _ (by assumption) HSs.out).mono ?_); rintro e x8 ⟨rfl, kk⟩; have HQ := Lib.hid (PN.out _ _ (by assumption) kk); clear kk)
          | (go_at_call 9; (with_reducible refine (CV.out _ (by assumption)).mono ?_); rintro e x9 ⟨rfl, kk⟩; have HQ := Lib.hid (PN.out _ _ (by assumption) kk); (try replace HSs := Lib.hid (HSs.out.next kk)); clear kk))
      all_goals (
        go_wp2_with fail
        go_ret
        exact ⟨rfl, (M.out.next (PV.out _ HQ.out)).u⟩)
end Go.Proofs.Ytakgnpmfnechhaa
