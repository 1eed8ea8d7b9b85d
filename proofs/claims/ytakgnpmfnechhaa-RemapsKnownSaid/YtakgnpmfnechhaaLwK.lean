/- The law RemapsKnown. -/
import Derived.Test.YtakgnpmfnechhaaMemW
namespace Go.Proofs.Ytakgnpmfnechhaa
open Go.RowKit

theorem mov_first {n : Nat} (h : 2 ≤ n) (hn : n ≤ 4096) : ∃ a, movL (idL n) 0 1 (n - 1) = a ∧ a.length = n ∧ Vm n a ∧ atL a 0 = (n : Int) - 1 ∧ atL a ((n : Int) - 1) = (n : Int) - 2 := by
  have hm := mov_made (n := n) (a := 0) (m := 1) (t := n - 1) (by omega) (by omega)
  refine ⟨mk n (movF 0 1 (n - 1)), hm.symm, mk_len _ _, by rw [hm]; exact (idL_vm hn).mov, ?_, ?_⟩
  · have hv : Vm n (mk n (movF 0 1 (n - 1))) := by rw [hm]; exact (idL_vm hn).mov
    have hl : n - 1 < (mk n (movF 0 1 (n - 1))).length := by rw [mk_len]; omega
    have e : (mk n (movF 0 1 (n - 1)))[n - 1] = 0 := by
      rw [mk_get]
      unfold movF
      rw [if_neg (by omega), if_pos (by omega)]
      omega
    have := atL_get hv.one hl (by rw [e]; omega)
    rw [e] at this
    rw [this]
    omega
  · have hv : Vm n (mk n (movF 0 1 (n - 1))) := by rw [hm]; exact (idL_vm hn).mov
    have hl : n - 2 < (mk n (movF 0 1 (n - 1))).length := by rw [mk_len]; omega
    have e : (mk n (movF 0 1 (n - 1)))[n - 2] = (n : Int) - 1 := by
      rw [mk_get]
      unfold movF othF
      rw [if_pos (by omega), if_neg (by omega)]
      omega
    have := atL_get hv.one hl (by rw [e]; omega)
    rw [e] at this
    rw [this]
    omega
theorem ins_last {n m : Nat} (h : n + m ≤ 4096) : ∃ b, insL (idL n) n m = b ∧ b.length = n + m ∧ Vm n b ∧ goneL n b = [] := by
  refine ⟨_, rfl, by rw [insL_len (by rw [idL_len]; exact Nat.le_refl _), idL_len], (idL_vm (by omega)).ins (by rw [idL_len]; omega), ?_⟩
  unfold goneL
  rw [List.filter_eq_nil_iff]
  intro x hx
  have : x ∈ insL (idL n) n m := by
    unfold insL
    rw [List.take_of_length_le (by rw [idL_len]; exact Nat.le_refl _)]
    exact List.mem_append.2 (.inl hx)
  simpa using this
/-- what is known of the law's lists -/
structure Kn (a b : List Int) : Prop where
  la : a.length = 4096
  lb : b.length = 4096
  m1 : movM 4096 0 1 4095 = ((4096, a), 0)
  m2 : insM 4000 4000 96 = ((4000, b), 0)
  m5 : atM 4096 a 0 = (4095, 0)
  m6 : atM 4096 a 4095 = (4094, 0)
  m7 : gonM 4000 b = ([], 0)
theorem kn_ex : ∃ a b, Kn a b := by
  obtain ⟨n, hn⟩ : ∃ n : Nat, n = 4096 := ⟨_, rfl⟩
  obtain ⟨k, hk⟩ : ∃ n : Nat, n = 4000 := ⟨_, rfl⟩
  obtain ⟨a, ha, la, va, a1, a2⟩ := mov_first (n := n) (by omega) (by omega)
  obtain ⟨b, hb, lb, vb, b1⟩ := ins_last (n := k) (m := 96) (by omega)
  have en : (4096 : Int) = (n : Int) := by omega
  have ek : (4000 : Int) = (k : Int) := by omega
  have e5 : (4095 : Int) = (n : Int) - 1 := by omega
  have e4 : (4094 : Int) = (n : Int) - 2 := by omega
  refine ⟨a, b, by omega, by omega, ?_, ?_, ?_, ?_, ?_⟩
  · unfold movM
    rw [if_pos (by omega), en, Int.toNat_natCast, show ((0 : Int).toNat) = 0 from rfl, show ((1 : Int).toNat) = 1 from rfl, show ((4095 : Int).toNat) = n - 1 by omega, ha]
  · unfold insM
    rw [if_neg (by omega), if_neg (by omega), ek, Int.toNat_natCast, show ((96 : Int).toNat) = 96 from rfl, hb]
  · unfold atM
    rw [en, chkM_zero.2 va, if_neg (by omega), if_neg (by omega), a1, if_neg (by omega)]
    congr 1
    omega
  · unfold atM
    rw [en, chkM_zero.2 va, if_neg (by omega), if_neg (by omega), e5, a2, if_neg (by omega), e4]
  · unfold gonM
    rw [ek, chkM_zero.2 vb, if_neg (by omega), Int.toNat_natCast, b1]
theorem kn_rest : insM 4000 0 97 = ((0, []), 3) ∧ samM 4097 = ((0, []), 4) ∧ insM 4096 0 9223372036854775807 = ((0, []), 3) ∧ remM 5 9223372036854775807 1 = ((0, []), 4) ∧ remM 5 1 9223372036854775807 = ((0, []), 4) ∧ samM 0 = ((0, []), 0) ∧
    chkM 4097 [] = 3 ∧ chkM (-1) [] = 1 ∧ chkM 1 [-1, -1, 0] = 0 ∧ chkM 1 [-2] = 4 := by
  refine ⟨?_, ?_, ?_, ?_, ?_, ?_, by decide, by decide, by decide, by decide⟩
  · unfold insM
    rw [if_neg (by omega), if_pos (by omega)]
  · unfold samM
    rw [if_neg (by omega)]
  · unfold insM
    rw [if_neg (by omega), if_pos (by omega)]
  · unfold remM
    rw [if_neg (by omega)]
  · unfold remM
    rw [if_neg (by omega)]
  · unfold samM
    rw [if_pos (by omega)]
    rfl
set_option maxRecDepth 100000 in
set_option maxHeartbeats 16000000 in
theorem law8_any (w : World) : Calls Try.prog 8 #[] w (YesB w) := by
  obtain ⟨a, b, hK⟩ := kn_ex
  obtain ⟨r3, r4, r8, r9, r10, r11, k1, k2, k4, k5⟩ := kn_rest
  have F := Lib.hid hK
  have hI : I64 9223372036854775807 := by unfold I64; omega
  have hI1 : I64 1 := by unfold I64; omega
  have hI0 : I64 0 := by unfold I64; omega
  have K1 := fun W => mkMov_any W 4096 0 1 4095 hI0 hI1
  rw [hK.m1] at K1
  have K2 := fun W => mkIns_any W 4000 4000 96
  rw [hK.m2] at K2
  have K3 := fun W => mkIns_any W 4000 0 97
  rw [r3] at K3
  have K4 := fun W => mkSame_any 4097 W
  rw [r4] at K4
  have K8 := fun W => mkIns_any W 4096 0 9223372036854775807
  rw [r8] at K8
  have K9 := fun W => mkRem_any W 5 9223372036854775807 1 hI hI1
  rw [r9] at K9
  have K10 := fun W => mkRem_any W 5 1 9223372036854775807 hI1 hI
  rw [r10] at K10
  have K11 := fun W => mkSame_any 0 W
  rw [r11] at K11
  obtain ⟨cs1, hcs⟩ : ∃ cs, madeCells #[Value.int .i64 0] 4097 = cs := ⟨_, rfl⟩
  have hm1 : ∀ W : World, (Instr.makeSlice 22 (.int .i64 4097) (.int .i64 4097)).run Try.prog W = .ok (.slice (some ⟨W.heap.size, 0, none⟩) 4097 4097) (W.alloc (.cells cs1 3)) := fun W => by
    rw [← hcs]; exact make_ints 4097 4097 4097 4097 rfl rfl (Nat.le_refl _) (by omega) W
  have CZ := Lib.hid (show ∀ W : World, Calls Try.prog 16 #[.agg #[.int .i64 0, .slice (some ⟨W.heap.size, 0, none⟩) 4097 4097]] (W.alloc (.cells cs1 3)) (NumB 3 (W.alloc (.cells cs1 3))) from fun W => by
    have hr := RI.made W 4097
    rw [hcs] at hr
    obtain ⟨zs, hz⟩ : ∃ zs, List.replicate 4097 (0 : Int) = zs := ⟨_, rfl⟩
    have hzl : zs.length = 4097 := by rw [← hz, List.length_replicate]
    rw [hz] at hr
    have h := check_any 0 4097 hr.rd (by omega)
    rw [hzl, show chkM 0 zs = 3 by unfold chkM; rw [if_neg (by omega), if_pos (by omega)]] at h
    exact h)
  have HM1 := Lib.hid hm1
  have K1 := Lib.hid K1
  have K2 := Lib.hid K2
  have K3 := Lib.hid K3
  have K4 := Lib.hid K4
  have K8 := Lib.hid K8
  have K9 := Lib.hid K9
  have K10 := Lib.hid K10
  have K11 := Lib.hid K11
  have HC := Lib.hid (show _ ∧ _ ∧ _ ∧ _ from ⟨k1, k2, k4, k5⟩)
  have M := Lib.hid (MM.start w)
  clear hK r3 r4 r8 r9 r10 r11 k1 k2 k4 k5 hI hI1 hI0 hm1 hcs
  go_enter Try.func8, Try.ntmps8
  go_wp2_with fail
  refine (K1.out _).mono ?_
  intro e w1 h
  obtain ⟨A1, rfl, hs, hf, hb⟩ := map_at h (n := 4096) F.out.la
  have hN := (M.out.next hb).pushM (o := 4096) (n := 4096) F.out.la hs
  obtain ⟨g1, eg⟩ : ∃ g : Nat, w1.heap.size = g := ⟨_, rfl⟩
  obtain ⟨V1, ev⟩ : ∃ V : World, w1.alloc (.cells #[.int .i64 4096, .slice A1 4096 4096] 24) = V := ⟨_, rfl⟩
  rw [eg, ev] at hN
  replace M := Lib.hid hN
  clear h hs hf hb hN
  go_wp2_with fail
  clear eg ev
  refine (K2.out _).mono ?_
  intro e w3 h
  obtain ⟨A3, rfl, hs, hf, hb⟩ := map_at h (n := 4096) F.out.lb
  have hN := (M.out.next hb).pushM (o := 4000) (n := 4096) F.out.lb hs
  obtain ⟨g3, eg⟩ : ∃ g : Nat, w3.heap.size = g := ⟨_, rfl⟩
  obtain ⟨V3, ev⟩ : ∃ V : World, w3.alloc (.cells #[.int .i64 4000, .slice A3 4096 4096] 24) = V := ⟨_, rfl⟩
  rw [eg, ev] at hN
  replace M := Lib.hid hN
  clear h hs hf hb hN
  go_wp2_with fail
  clear eg ev
  refine (K3.out _).mono ?_
  intro e w5 h
  obtain ⟨A5, rfl, hs, hf, hb⟩ := map_at h (n := 0) rfl
  have hN := (M.out.next hb).pushM (o := 0) (n := 0) rfl hs
  obtain ⟨g5, eg⟩ : ∃ g : Nat, w5.heap.size = g := ⟨_, rfl⟩
  obtain ⟨V5, ev⟩ : ∃ V : World, w5.alloc (.cells #[.int .i64 0, .slice A5 0 0] 24) = V := ⟨_, rfl⟩
  rw [eg, ev] at hN
  replace M := Lib.hid hN
  clear h hs hf hb hN
  go_wp2_with fail
  clear eg ev
  refine (K4.out _).mono ?_
  intro e w7 h
  obtain ⟨A7, rfl, hs, hf, hb⟩ := map_at h (n := 0) rfl
  have hN := (M.out.next hb).pushM (o := 0) (n := 0) rfl hs
  obtain ⟨g7, eg⟩ : ∃ g : Nat, w7.heap.size = g := ⟨_, rfl⟩
  obtain ⟨V7, ev⟩ : ∃ V : World, w7.alloc (.cells #[.int .i64 0, .slice A7 0 0] 24) = V := ⟨_, rfl⟩
  rw [eg, ev] at hN
  replace M := Lib.hid hN
  clear h hs hf hb hN
  obtain ⟨x0, x1⟩ := (M.out.at 3 rfl).cells_n F.out.la
  go_wp2_with fail
  clear eg ev x0 x1
  have K := at_map 4096 (M.out.at 3 rfl).sl 0
  rw [F.out.m5, F.out.la] at K
  have K := Lib.hid K
  refine K.out.mono ?_
  rintro e y1 ⟨rfl, hb⟩
  replace M := Lib.hid (M.out.next hb)
  clear K hb
  obtain ⟨x0, x1⟩ := (M.out.at 3 rfl).cells_n F.out.la
  go_wp2_with fail
  clear x0 x1
  have K := at_map 4096 (M.out.at 3 rfl).sl 4095
  rw [F.out.m6, F.out.la] at K
  have K := Lib.hid K
  refine K.out.mono ?_
  rintro e y2 ⟨rfl, hb⟩
  replace M := Lib.hid (M.out.next hb)
  clear K hb
  obtain ⟨x0, x1⟩ := (M.out.at 2 rfl).cells_n F.out.lb
  go_wp2_with fail
  clear x0 x1
  have K := gone_any 4000 (M.out.at 2 rfl).sl
  rw [F.out.m7, F.out.lb] at K
  have K := Lib.hid K
  refine (K.out).mono ?_
  intro e y3 h
  obtain ⟨A13, rfl, hs, hb⟩ := rowX_at h (n := 0) rfl
  have hN := (M.out.next hb).pushR hs
  replace M := Lib.hid hN
  clear h hs hb hN
  clear K
  go_wp2_with fail
  refine (K8.out _).mono ?_
  intro e w15 h
  obtain ⟨A15, rfl, hs, hf, hb⟩ := map_at h (n := 0) rfl
  have hN := (M.out.next hb).pushM (o := 0) (n := 0) rfl hs
  obtain ⟨g15, eg⟩ : ∃ g : Nat, w15.heap.size = g := ⟨_, rfl⟩
  obtain ⟨V15, ev⟩ : ∃ V : World, w15.alloc (.cells #[.int .i64 0, .slice A15 0 0] 24) = V := ⟨_, rfl⟩
  rw [eg, ev] at hN
  replace M := Lib.hid hN
  clear h hs hf hb hN
  go_wp2_with fail
  clear eg ev
  refine (K9.out _).mono ?_
  intro e w17 h
  obtain ⟨A17, rfl, hs, hf, hb⟩ := map_at h (n := 0) rfl
  have hN := (M.out.next hb).pushM (o := 0) (n := 0) rfl hs
  obtain ⟨g17, eg⟩ : ∃ g : Nat, w17.heap.size = g := ⟨_, rfl⟩
  obtain ⟨V17, ev⟩ : ∃ V : World, w17.alloc (.cells #[.int .i64 0, .slice A17 0 0] 24) = V := ⟨_, rfl⟩
  rw [eg, ev] at hN
  replace M := Lib.hid hN
  clear h hs hf hb hN
  go_wp2_with fail
  clear eg ev
  refine (K10.out _).mono ?_
  intro e w19 h
  obtain ⟨A19, rfl, hs, hf, hb⟩ := map_at h (n := 0) rfl
  have hN := (M.out.next hb).pushM (o := 0) (n := 0) rfl hs
  obtain ⟨g19, eg⟩ : ∃ g : Nat, w19.heap.size = g := ⟨_, rfl⟩
  obtain ⟨V19, ev⟩ : ∃ V : World, w19.alloc (.cells #[.int .i64 0, .slice A19 0 0] 24) = V := ⟨_, rfl⟩
  rw [eg, ev] at hN
  replace M := Lib.hid hN
  clear h hs hf hb hN
  obtain ⟨x0, x1⟩ := (M.out.at 5 rfl).cells_n F.out.lb
  go_wp2_with fail
  clear eg ev x0 x1
  refine (K11.out _).mono ?_
  intro e w21 h
  obtain ⟨A21, rfl, hs, hf, hb⟩ := map_at h (n := 0) rfl
  have hN := (M.out.next hb).pushM (o := 0) (n := 0) rfl hs
  obtain ⟨g21, eg⟩ : ∃ g : Nat, w21.heap.size = g := ⟨_, rfl⟩
  obtain ⟨V21, ev⟩ : ∃ V : World, w21.alloc (.cells #[.int .i64 0, .slice A21 0 0] 24) = V := ⟨_, rfl⟩
  rw [eg, ev] at hN
  replace M := Lib.hid hN
  clear h hs hf hb hN
  obtain ⟨x0, x1⟩ := (M.out.at 0 rfl).cells_n (n := 0) rfl
  go_wp2_with fail
  clear eg ev x0 x1
  refine (same_nil 0 0 (M.out.at 0 rfl).sl).mono ?_
  rintro e s1 ⟨rfl, hb⟩
  replace M := Lib.hid (M.out.next hb)
  clear hb
  go_wp2_with fail
  refine (of_any _ _ _ _ _).mono ?_
  rintro e s2 ⟨rfl, rfl⟩
  have hbn := below_new s1 (.cells #[.int .i64 4097, .slice none 0 0] 24)
  have K := check_any (w := s1.alloc (.cells #[.int .i64 4097, .slice none 0 0] 24)) 4097 0 (l := []) (A := none) RdI.nil (by decide)
  rw [HC.out.1] at K
  have K := Lib.hid K
  replace M := Lib.hid (M.out.next hbn)
  clear hbn
  go_wp2_with fail
  refine K.out.mono ?_
  rintro e s3 ⟨rfl, hb⟩
  replace M := Lib.hid (M.out.next hb)
  clear K hb
  go_wp2_with fail
  refine (of_any _ _ _ _ _).mono ?_
  rintro e s4 ⟨rfl, rfl⟩
  have hbn := below_new s3 (.cells #[.int .i64 (-1), .slice none 0 0] 24)
  have K := check_any (w := s3.alloc (.cells #[.int .i64 (-1), .slice none 0 0] 24)) (-1) 0 (l := []) (A := none) RdI.nil (by decide)
  rw [HC.out.2.1] at K
  have K := Lib.hid K
  replace M := Lib.hid (M.out.next hbn)
  clear hbn
  go_wp2_with fail
  refine K.out.mono ?_
  rintro e s5 ⟨rfl, hb⟩
  replace M := Lib.hid (M.out.next hb)
  have hm1 := HM1.out
  clear K hb
  go_wp2_with fail
  clear hm1
  refine (CZ.out s5).mono ?_
  rintro e s6 ⟨rfl, hb⟩
  replace M := Lib.hid ((M.out.next (below_new s5 (.cells cs1 3))).next hb)
  clear hb
  go_wp2_with fail
  refine (of_any _ _ _ _ _).mono ?_
  rintro e s7 ⟨rfl, rfl⟩
  obtain ⟨h1, hb1⟩ := lit_of s6 1 [-1, -1, 0] rfl (by decide) (.slice (some ⟨s6.heap.size, 0, none⟩) 3 3)
  have K := check_any 1 3 h1.rd h1.len
  rw [HC.out.2.2.1] at K
  have K := Lib.hid K
  replace M := Lib.hid (M.out.next hb1)
  clear h1 hb1
  go_wp2_with fail
  refine K.out.mono ?_
  rintro e s8 ⟨rfl, hb⟩
  replace M := Lib.hid (M.out.next hb)
  clear K hb
  go_wp2_with fail
  refine (of_any _ _ _ _ _).mono ?_
  rintro e s9 ⟨rfl, rfl⟩
  obtain ⟨h1, hb1⟩ := lit_of s8 1 [-2] rfl (by decide) (.slice (some ⟨s8.heap.size, 0, none⟩) 1 1)
  have K := check_any 1 1 h1.rd h1.len
  rw [HC.out.2.2.2] at K
  have K := Lib.hid K
  replace M := Lib.hid (M.out.next hb1)
  clear h1 hb1
  go_wp2_with fail
  refine K.out.mono ?_
  rintro e s10 ⟨rfl, hb⟩
  replace M := Lib.hid (M.out.next hb)
  clear K hb
  go_wp2_with fail
  refine (lives_any s10).mono ?_
  rintro e s11 ⟨rfl, hb⟩
  replace M := Lib.hid (M.out.next hb)
  clear hb
  go_wp2_with fail
  go_ret
  exact ⟨rfl, M.out.u⟩
end Go.Proofs.Ytakgnpmfnechhaa
