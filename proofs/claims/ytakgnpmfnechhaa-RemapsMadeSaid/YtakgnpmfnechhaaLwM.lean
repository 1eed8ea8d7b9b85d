/- The law RemapsMade. -/
import Derived.Test.YtakgnpmfnechhaaMemW
import Derived.Test.YtakgnpmfnechhaaRefM
import Derived.Deep.CutRange
namespace Go.Proofs.Ytakgnpmfnechhaa
open Go.RowKit

def oldF (n e : Int) : Int := if e ≠ 0 then 0 else n
theorem old_any (w : World) (n e : Int) : Calls Try.prog 29 #[.int .i64 n, .int .i64 e] w (NumB (oldF n e) w) := by
  unfold oldF
  by_cases h : e = 0
  · subst h
    rw [if_neg (by omega)]
    exact (old_ok w n).mono fun _ _ h => ⟨h.1, by rw [h.2]; exact Below.refl _ _⟩
  · rw [if_pos h]
    exact (old_err w n e h).mono fun _ _ h => ⟨h.1, by rw [h.2]; exact Below.refl _ _⟩
/-- the program's maps and the reference's lists -/
theorem ins_two {k : Nat} (hk : k ≤ 4096) (a m : Int) : ∃ L e o n, insM k a m = ((o, L), e) ∧ insR (idL k) a m = (L, e) ∧ oldF k e = o ∧ L.length = n ∧ n ≤ 4096 := by
  unfold insM insR
  rw [idL_len]
  by_cases h : a < 0 ∨ (k : Int) < a ∨ m < 0
  · rw [if_pos (by omega), if_pos h]
    exact ⟨_, _, _, _, rfl, rfl, rfl, rfl, by simp⟩
  · rw [if_neg (by omega), if_neg h]
    by_cases h2 : 4096 - (k : Int) < m
    · rw [if_pos h2, if_pos h2]
      exact ⟨_, _, _, _, rfl, rfl, rfl, rfl, by simp⟩
    · rw [if_neg h2, if_neg h2, Int.toNat_natCast]
      exact ⟨_, _, _, _, rfl, rfl, rfl, rfl, by rw [insL_len (by rw [idL_len]; omega), idL_len]; omega⟩
theorem rem_two {k : Nat} (hk : k ≤ 4096) (a m : Int) : ∃ L e o n, remM k a m = ((o, L), e) ∧ remR (idL k) a m = (L, e) ∧ oldF k e = o ∧ L.length = n ∧ n ≤ 4096 := by
  unfold remM remR
  rw [idL_len]
  by_cases h : a < 0 ∨ m < 0 ∨ (k : Int) < a ∨ (k : Int) - a < m
  · rw [if_neg (by omega), if_pos h]
    exact ⟨_, _, _, _, rfl, rfl, rfl, rfl, by simp⟩
  · rw [if_pos (by omega), if_neg h, Int.toNat_natCast]
    exact ⟨_, _, _, _, rfl, rfl, rfl, rfl, by rw [remL_len (by rw [idL_len]; omega), idL_len]; omega⟩
theorem mov_two {k : Nat} (hk : k ≤ 4096) (a m t : Int) : ∃ L e o n, movM k a m t = ((o, L), e) ∧ movR (idL k) a m t = (L, e) ∧ oldF k e = o ∧ L.length = n ∧ n ≤ 4096 := by
  unfold movM movR remR
  rw [idL_len]
  by_cases h : a < 0 ∨ m < 0 ∨ (k : Int) < a ∨ (k : Int) - a < m
  · rw [if_neg (by omega), if_pos h, if_pos (.inl (by decide))]
    exact ⟨_, _, _, _, rfl, rfl, rfl, rfl, by simp⟩
  · rw [if_neg h]
    by_cases h2 : t < 0 ∨ (k : Int) - m < t
    · rw [if_neg (by omega), if_pos (.inr h2)]
      exact ⟨_, _, _, _, rfl, rfl, rfl, rfl, by simp⟩
    · rw [if_pos (by omega), if_neg (by simp; omega), Int.toNat_natCast]
      exact ⟨_, _, _, _, rfl, rfl, rfl, rfl, by rw [movL_len, idL_len]; omega⟩
set_option maxRecDepth 100000 in
set_option maxHeartbeats 8000000 in
theorem law4_bad {w : World} (n a m t : Int) (ha : I64 a) (hm : I64 m) (hn : n < 0 ∨ 4096 < n) : Calls Try.prog 4 #[.agg #[.int .i64 n, .int .i64 a, .int .i64 m, .int .i64 t]] w (YesB w) := by
  have K1 := fun W => mkSame_any n W
  have K2 := fun W => mkIns_any W n a m
  have K3 := fun W => mkRem_any W n a m ha hm
  have K4 := fun W => mkMov_any W n a m t ha hm
  rw [show samM n = ((0, []), 4) by unfold samM; rw [if_neg (by omega)]] at K1
  rw [show insM n a m = ((0, []), 4) by unfold insM; rw [if_pos (by omega)]] at K2
  rw [show remM n a m = ((0, []), 4) by unfold remM; rw [if_neg (by omega)]] at K3
  rw [show movM n a m t = ((0, []), 4) by unfold movM; rw [if_neg (by omega)]] at K4
  have K1 := Lib.hid K1
  have K2 := Lib.hid K2
  have K3 := Lib.hid K3
  have K4 := Lib.hid K4
  clear ha hm
  have hB0 := below_new w (.cells #[.int .i64 n, .int .i64 a, .int .i64 m, .int .i64 t] 42)
  have M := Lib.hid ((MM.start w).next hB0)
  clear hB0
  go_enter Try.func4, Try.ntmps4
  go_upto_region 1 with fail
  go_quiet (fail)
  rename_i nq
  replace M := Lib.hid (M.out.next (below_drewN _ nq))
  generalize (w.alloc (.cells #[.int .i64 n, .int .i64 a, .int .i64 m, .int .i64 t] 42)).drewN nq = w1 at *
  go_wp2_with fail
  refine (K1.out _).mono ?_
  intro e u7 h
  obtain ⟨A7, rfl, hs, hf, hb⟩ := map_at h (n := 0) rfl
  have hN := (M.out.next hb).pushM (o := 0) (n := 0) rfl hs
  obtain ⟨g7, eg⟩ : ∃ g : Nat, u7.heap.size = g := ⟨_, rfl⟩
  obtain ⟨V7, ev⟩ : ∃ V : World, u7.alloc (.cells #[.int .i64 0, .slice A7 0 0] 24) = V := ⟨_, rfl⟩
  rw [eg, ev] at hN
  replace M := Lib.hid hN
  clear h hs hf hb hN
  go_wp2_with fail
  clear eg ev
  refine (K2.out _).mono ?_
  intro e u9 h
  obtain ⟨A9, rfl, hs, hf, hb⟩ := map_at h (n := 0) rfl
  have hN := (M.out.next hb).pushM (o := 0) (n := 0) rfl hs
  obtain ⟨g9, eg⟩ : ∃ g : Nat, u9.heap.size = g := ⟨_, rfl⟩
  obtain ⟨V9, ev⟩ : ∃ V : World, u9.alloc (.cells #[.int .i64 0, .slice A9 0 0] 24) = V := ⟨_, rfl⟩
  rw [eg, ev] at hN
  replace M := Lib.hid hN
  clear h hs hf hb hN
  go_wp2_with fail
  clear eg ev
  refine (K3.out _).mono ?_
  intro e u11 h
  obtain ⟨A11, rfl, hs, hf, hb⟩ := map_at h (n := 0) rfl
  have hN := (M.out.next hb).pushM (o := 0) (n := 0) rfl hs
  obtain ⟨g11, eg⟩ : ∃ g : Nat, u11.heap.size = g := ⟨_, rfl⟩
  obtain ⟨V11, ev⟩ : ∃ V : World, u11.alloc (.cells #[.int .i64 0, .slice A11 0 0] 24) = V := ⟨_, rfl⟩
  rw [eg, ev] at hN
  replace M := Lib.hid hN
  clear h hs hf hb hN
  go_wp2_with fail
  clear eg ev
  refine (K4.out _).mono ?_
  intro e u13 h
  obtain ⟨A13, rfl, hs, hf, hb⟩ := map_at h (n := 0) rfl
  have hN := (M.out.next hb).pushM (o := 0) (n := 0) rfl hs
  obtain ⟨g13, eg⟩ : ∃ g : Nat, u13.heap.size = g := ⟨_, rfl⟩
  obtain ⟨V13, ev⟩ : ∃ V : World, u13.alloc (.cells #[.int .i64 0, .slice A13 0 0] 24) = V := ⟨_, rfl⟩
  rw [eg, ev] at hN
  replace M := Lib.hid hN
  clear h hs hf hb hN
  rcases (show n < 0 ∨ (¬ (n < 0) ∧ 4096 < n) by omega) with hn1 | ⟨hn1, hn2⟩
  all_goals
    clear hn
    obtain ⟨x0, x1⟩ := (M.out.at 3 rfl).cells_n (n := 0) rfl
    go_wp2_with fail
    clear eg ev x0 x1
    refine (same_nil 0 4 (M.out.at 3 rfl).sl).mono ?_
    rintro e y3 ⟨rfl, hb⟩
    replace M := Lib.hid (M.out.next hb)
    clear hb
    obtain ⟨x0, x1⟩ := (M.out.at 2 rfl).cells_n (n := 0) rfl
    go_wp2_with fail
    clear x0 x1
    refine (same_nil 0 4 (M.out.at 2 rfl).sl).mono ?_
    rintro e y2 ⟨rfl, hb⟩
    replace M := Lib.hid (M.out.next hb)
    clear hb
    obtain ⟨x0, x1⟩ := (M.out.at 1 rfl).cells_n (n := 0) rfl
    go_wp2_with fail
    clear x0 x1
    refine (same_nil 0 4 (M.out.at 1 rfl).sl).mono ?_
    rintro e y1 ⟨rfl, hb⟩
    replace M := Lib.hid (M.out.next hb)
    clear hb
    obtain ⟨x0, x1⟩ := (M.out.at 0 rfl).cells_n (n := 0) rfl
    go_wp2_with fail
    clear x0 x1
    refine (same_nil 0 4 (M.out.at 0 rfl).sl).mono ?_
    rintro e y0 ⟨rfl, hb⟩
    replace M := Lib.hid (M.out.next hb)
    clear hb
    go_wp2_with fail
    refine (lives_any _).mono ?_
    rintro e y9 ⟨rfl, hb⟩
    replace M := Lib.hid (M.out.next hb)
    clear hb
    go_wp2_with fail
    go_ret
    exact ⟨rfl, M.out.u⟩
set_option maxRecDepth 100000 in
set_option maxHeartbeats 16000000 in
theorem law4_ok {w : World} (k : Nat) (a m t : Int) (hk : k ≤ 4096) (ha : I64 a) (hm : I64 m) : Calls Try.prog 4 #[.agg #[.int .i64 k, .int .i64 a, .int .i64 m, .int .i64 t]] w (YesB w) := by
  obtain ⟨L2, e2, o2, n2, h2, r2, q2, l2, b2⟩ := ins_two hk a m
  obtain ⟨L3, e3, o3, n3, h3, r3, q3, l3, b3⟩ := rem_two hk a m
  obtain ⟨L4, e4, o4, n4, h4, r4, q4, l4, b4⟩ := mov_two hk a m t
  have K1 := fun W => mkSame_any k W
  have K2 := fun W => mkIns_any W k a m
  have K3 := fun W => mkRem_any W k a m ha hm
  have K4 := fun W => mkMov_any W k a m t ha hm
  rw [show samM k = (((k : Int), idL k), 0) by unfold samM; rw [if_pos (by omega), Int.toNat_natCast]] at K1
  rw [h2] at K2
  rw [h3] at K3
  rw [h4] at K4
  have K1 := Lib.hid K1
  have K2 := Lib.hid K2
  have K3 := Lib.hid K3
  have K4 := Lib.hid K4
  have HL2 := Lib.hid l2
  have HL3 := Lib.hid l3
  have HL4 := Lib.hid l4
  have HR2 := Lib.hid r2
  have HR3 := Lib.hid r3
  have HR4 := Lib.hid r4
  have HO2 := Lib.hid q2
  have HO3 := Lib.hid q3
  have HO4 := Lib.hid q4
  have HI := Lib.hid (show _ ∧ _ from ⟨ha, hm⟩)
  have hn1 : ¬ ((k : Int) < 0) := by omega
  have hn2 : ¬ (4096 < (k : Int)) := by omega
  clear h2 h3 h4 r2 r3 r4 q2 q3 q4 l2 l3 l4 ha hm
  have hB0 := below_new w (.cells #[.int .i64 k, .int .i64 a, .int .i64 m, .int .i64 t] 42)
  have M := Lib.hid ((MM.start w).next hB0)
  clear hB0
  go_enter Try.func4, Try.ntmps4
  go_upto_region 1 with fail
  go_quiet (fail)
  rename_i nq
  replace M := Lib.hid (M.out.next (below_drewN _ nq))
  generalize (w.alloc (.cells #[.int .i64 k, .int .i64 a, .int .i64 m, .int .i64 t] 42)).drewN nq = w1 at *
  go_wp2_with fail
  refine (K1.out _).mono ?_
  intro e u7 h
  obtain ⟨A7, rfl, hs, hf, hb⟩ := map_at h (n := k) (idL_len k)
  have hN := (M.out.next hb).pushM (o := k) (n := k) (idL_len k) hs
  obtain ⟨g7, eg⟩ : ∃ g : Nat, u7.heap.size = g := ⟨_, rfl⟩
  obtain ⟨V7, ev⟩ : ∃ V : World, u7.alloc (.cells #[.int .i64 k, .slice A7 k k] 24) = V := ⟨_, rfl⟩
  rw [eg, ev] at hN
  replace M := Lib.hid hN
  clear h hs hf hb hN
  go_wp2_with fail
  clear eg ev
  refine (K2.out _).mono ?_
  intro e u9 h
  obtain ⟨A9, rfl, hs, hf, hb⟩ := map_at h (n := n2) HL2.out
  have hN := (M.out.next hb).pushM (o := o2) (n := n2) HL2.out hs
  obtain ⟨g9, eg⟩ : ∃ g : Nat, u9.heap.size = g := ⟨_, rfl⟩
  obtain ⟨V9, ev⟩ : ∃ V : World, u9.alloc (.cells #[.int .i64 o2, .slice A9 n2 n2] 24) = V := ⟨_, rfl⟩
  rw [eg, ev] at hN
  replace M := Lib.hid hN
  clear h hs hf hb hN
  go_wp2_with fail
  clear eg ev
  refine (K3.out _).mono ?_
  intro e u11 h
  obtain ⟨A11, rfl, hs, hf, hb⟩ := map_at h (n := n3) HL3.out
  have hN := (M.out.next hb).pushM (o := o3) (n := n3) HL3.out hs
  obtain ⟨g11, eg⟩ : ∃ g : Nat, u11.heap.size = g := ⟨_, rfl⟩
  obtain ⟨V11, ev⟩ : ∃ V : World, u11.alloc (.cells #[.int .i64 o3, .slice A11 n3 n3] 24) = V := ⟨_, rfl⟩
  rw [eg, ev] at hN
  replace M := Lib.hid hN
  clear h hs hf hb hN
  go_wp2_with fail
  clear eg ev
  refine (K4.out _).mono ?_
  intro e u13 h
  obtain ⟨A13, rfl, hs, hf, hb⟩ := map_at h (n := n4) HL4.out
  have hN := (M.out.next hb).pushM (o := o4) (n := n4) HL4.out hs
  obtain ⟨g13, eg⟩ : ∃ g : Nat, u13.heap.size = g := ⟨_, rfl⟩
  obtain ⟨V13, ev⟩ : ∃ V : World, u13.alloc (.cells #[.int .i64 o4, .slice A13 n4 n4] 24) = V := ⟨_, rfl⟩
  rw [eg, ev] at hN
  replace M := Lib.hid hN
  clear h hs hf hb hN
  clear K1 K2 K3 K4
  go_wp2_with fail
  clear eg ev
  refine (refSame_any k hk _).mono ?_
  rintro e y1 ⟨A15, c15, rfl, hs, _, hb⟩
  have hN := (M.out.next hb).pushR hs
  replace M := Lib.hid hN
  have hl15 : (idL k).length = k := idL_len k
  clear hs hb hN
  rw [hl15]
  obtain ⟨x0, x1⟩ := (M.out.at 3 rfl).cells_n (n := k) (idL_len k)
  go_wp2_with fail
  clear x0 x1
  have S := same_any k 0 c15 (zs := idL k) (M.out.at 3 rfl).sl.rd (M.out.row 0 rfl).rd (by rw [idL_len]; omega)
  rw [idL_len] at S
  have S := Lib.hid S
  refine (S.out).mono ?_
  rintro e y2 ⟨rfl, hb⟩
  replace M := Lib.hid (M.out.next hb)
  clear hb
  clear S
  go_wp2_with fail
  have K := refIns_any (M.out.row 0 rfl) a m (by rw [idL_len]; exact hk) HI.out.1 HI.out.2
  rw [HR2.out, idL_len] at K
  have K := Lib.hid K
  refine K.out.mono ?_
  intro e y3 h
  obtain ⟨A16, c16, rfl, hs, hb⟩ := rowE_at h HL2.out
  have hN := (M.out.next hb).pushR hs
  replace M := Lib.hid hN
  clear K h hs hb hN
  go_wp2_with fail
  have K := refRem_any (M.out.row 1 rfl) a m (by rw [idL_len]; exact hk) HI.out.1 HI.out.2
  rw [HR3.out, idL_len] at K
  have K := Lib.hid K
  refine K.out.mono ?_
  intro e y4 h
  obtain ⟨A18, c18, rfl, hs, hb⟩ := rowE_at h HL3.out
  have hN := (M.out.next hb).pushR hs
  replace M := Lib.hid hN
  clear K h hs hb hN
  go_wp2_with fail
  have K := refMv_any (M.out.row 2 rfl) a m t (by rw [idL_len]; exact hk) HI.out.1 HI.out.2
  rw [HR4.out, idL_len] at K
  have K := Lib.hid K
  refine K.out.mono ?_
  intro e y5 h
  obtain ⟨A20, c20, rfl, hs, hb⟩ := rowE_at h HL4.out
  have hN := (M.out.next hb).pushR hs
  replace M := Lib.hid hN
  clear K h hs hb hN
  go_upto_region 14 with fail
  obtain ⟨P, hP⟩ : ∃ P : World → Prop, (fun U => Below y5.heap.size y5 U) = P := ⟨_, rfl⟩
  have PV := Lib.hid (show ∀ U, P U → Below y5.heap.size y5 U from fun U h => by rw [← hP] at h; exact h)
  have PN := Lib.hid (show ∀ U U', Hid (P U) → Below U.heap.size U U' → P U' from fun U U' h kk => by
    have h := h.out
    rw [← hP] at h ⊢
    exact h.trans (kk.mono h.size))
  have HP0 : Hid (P y5.drew) := Lib.hid (by rw [← hP]; exact (Below.refl _ _).drew)
  have PC := Lib.hid (show ∀ U, Hid (P U) → (U.cell? ⟨g9, 0, none⟩ = some (.int .i64 o2) ∧ U.cell? ⟨g9, 1, none⟩ = some (.slice A9 n2 n2) ∧ U.cell? ⟨g11, 0, none⟩ = some (.int .i64 o3) ∧ U.cell? ⟨g11, 1, none⟩ = some (.slice A11 n3 n3) ∧ U.cell? ⟨g13, 0, none⟩ = some (.int .i64 o4) ∧ U.cell? ⟨g13, 1, none⟩ = some (.slice A13 n4 n4)) from fun U h => by
    have N := M.out.next (PV.out U h.out)
    obtain ⟨x0, x1⟩ := (N.at 2 rfl).cells_n HL2.out
    obtain ⟨y0, y1⟩ := (N.at 1 rfl).cells_n HL3.out
    obtain ⟨z0, z1⟩ := (N.at 0 rfl).cells_n HL4.out
    exact ⟨x0, x1, y0, y1, z0, z1⟩)
  have CO2 := Lib.hid (show ∀ U, Hid (P U) → Calls Try.prog 29 #[.int .i64 k, .int .i64 e2] U (NumB o2 U) from fun U _ => by
    have K := old_any U k e2
    rwa [HO2.out] at K)
  have CS2 := Lib.hid (show ∀ U, Hid (P U) → Calls Try.prog 18 #[.agg #[.int .i64 o2, .slice A9 n2 n2], .int .i64 e2, .int .i64 o2, .slice A16 n2 c16, .int .i64 e2] U (YesB U) from fun U h => by
    have N := M.out.next (PV.out U h.out)
    have K := same_any o2 e2 c16 (N.at 2 rfl).sl.rd (N.row 2 rfl).rd (by rw [HL2.out]; omega)
    rwa [HL2.out] at K)
  have CO3 := Lib.hid (show ∀ U, Hid (P U) → Calls Try.prog 29 #[.int .i64 k, .int .i64 e3] U (NumB o3 U) from fun U _ => by
    have K := old_any U k e3
    rwa [HO3.out] at K)
  have CS3 := Lib.hid (show ∀ U, Hid (P U) → Calls Try.prog 18 #[.agg #[.int .i64 o3, .slice A11 n3 n3], .int .i64 e3, .int .i64 o3, .slice A18 n3 c18, .int .i64 e3] U (YesB U) from fun U h => by
    have N := M.out.next (PV.out U h.out)
    have K := same_any o3 e3 c18 (N.at 1 rfl).sl.rd (N.row 1 rfl).rd (by rw [HL3.out]; omega)
    rwa [HL3.out] at K)
  have CO4 := Lib.hid (show ∀ U, Hid (P U) → Calls Try.prog 29 #[.int .i64 k, .int .i64 e4] U (NumB o4 U) from fun U _ => by
    have K := old_any U k e4
    rwa [HO4.out] at K)
  have CS4 := Lib.hid (show ∀ U, Hid (P U) → Calls Try.prog 18 #[.agg #[.int .i64 o4, .slice A13 n4 n4], .int .i64 e4, .int .i64 o4, .slice A20 n4 c20, .int .i64 e4] U (YesB U) from fun U h => by
    have N := M.out.next (PV.out U h.out)
    have K := same_any o4 e4 c20 (N.at 0 rfl).sl.rd (N.row 0 rfl).rd (by rw [HL4.out]; omega)
    rwa [HL4.out] at K)
  have CV := Lib.hid (show ∀ U, Hid (P U) → Calls Try.prog 9 #[] U (YesB U) from fun U _ => lives_any U)
  clear hP
  go_region_held3 (fun U => U.cell? ⟨g9, 0, none⟩ = some (.int .i64 o2) ∧ U.cell? ⟨g9, 1, none⟩ = some (.slice A9 n2 n2) ∧ U.cell? ⟨g11, 0, none⟩ = some (.int .i64 o3) ∧ U.cell? ⟨g11, 1, none⟩ = some (.slice A11 n3 n3) ∧ U.cell? ⟨g13, 0, none⟩ = some (.int .i64 o4) ∧ U.cell? ⟨g13, 1, none⟩ = some (.slice A13 n4 n4))
    (with_reducible exact PC.out _ (by assumption))
    (first
      | (go_at_call 29; (with_reducible refine (CO2.out _ (by assumption)).mono ?_); rintro e w6 ⟨rfl, kk⟩; have HQ := Lib.hid (PN.out _ _ (by assumption) kk); clear kk)
      | (go_at_call 18; (with_reducible refine (CS2.out _ (by assumption)).mono ?_); rintro e w6 ⟨rfl, kk⟩; have HQ := Lib.hid (PN.out _ _ (by assumption) kk); clear kk)
      | (go_at_call 29; (with_reducible refine (CO3.out _ (by assumption)).mono ?_); rintro e w6 ⟨rfl, kk⟩; have HQ := Lib.hid (PN.out _ _ (by assumption) kk); clear kk)
      | (go_at_call 18; (with_reducible refine (CS3.out _ (by assumption)).mono ?_); rintro e w6 ⟨rfl, kk⟩; have HQ := Lib.hid (PN.out _ _ (by assumption) kk); clear kk)
      | (go_at_call 29; (with_reducible refine (CO4.out _ (by assumption)).mono ?_); rintro e w6 ⟨rfl, kk⟩; have HQ := Lib.hid (PN.out _ _ (by assumption) kk); clear kk)
      | (go_at_call 18; (with_reducible refine (CS4.out _ (by assumption)).mono ?_); rintro e w6 ⟨rfl, kk⟩; have HQ := Lib.hid (PN.out _ _ (by assumption) kk); clear kk)
      | (go_at_call 9; (with_reducible refine (CV.out _ (by assumption)).mono ?_); rintro e w6 ⟨rfl, kk⟩; have HQ := Lib.hid (PN.out _ _ (by assumption) kk); clear kk))
  all_goals (
    go_wp2_with fail
    go_ret
    exact ⟨rfl, (M.out.next (PV.out _ HQ.out)).u⟩)
theorem law4_any {w : World} (n a m t : Int) (_hn : I64 n) (ha : I64 a) (hm : I64 m) (_ht : I64 t) : Calls Try.prog 4 #[.agg #[.int .i64 n, .int .i64 a, .int .i64 m, .int .i64 t]] w (YesB w) := by
  by_cases h : n < 0 ∨ 4096 < n
  · exact law4_bad n a m t ha hm h
  · obtain ⟨k, rfl⟩ : ∃ k : Nat, n = k := ⟨n.toNat, by omega⟩
    exact law4_ok k a m t (by omega) ha hm
end Go.Proofs.Ytakgnpmfnechhaa
