/- The walks of Same, Inserted, Removed, Moved. -/
import Derived.Test.YtakgnpmfnechhaaMadW
import Derived.Laws.EntriesVeiled
namespace Go.Proofs.Ytakgnpmfnechhaa
open Go.RowKit

/-- a bool is returned, nothing has changed -/
def BoolS (b : Bool) (w : World) (e : Ending) (w' : World) : Prop := e = .returned (.bool b) ∧ w = w'
theorem isLen_yes (n : Int) (w : World) (h0 : 0 ≤ n) (h1 : n ≤ 4096) : Calls Try.prog 38 #[.int .i64 n] w (BoolS true w) := by
  go_enter Try.func38, Try.ntmps38
  go_wp2_with fail
  go_ret
  exact ⟨rfl, rfl⟩
theorem isLen_no (n : Int) (w : World) (h : n < 0 ∨ 4096 < n) : Calls Try.prog 38 #[.int .i64 n] w (BoolS false w) := by
  by_cases h0 : n < 0
  · have h1 : ¬ (0 ≤ n) := by omega
    clear h
    go_enter Try.func38, Try.ntmps38
    go_wp2_with fail
    go_ret
    exact ⟨rfl, rfl⟩
  · have h1 : 0 ≤ n := by omega
    have h2 : ¬ (n ≤ 4096) := by omega
    clear h
    go_enter Try.func38, Try.ntmps38
    go_wp2_with fail
    go_ret
    exact ⟨rfl, rfl⟩
/-- a part of a list that may be -/
def Part (n a m : Int) : Prop := 0 ≤ n ∧ n ≤ 4096 ∧ 0 ≤ a ∧ 0 ≤ m ∧ m ≤ n - a
set_option maxHeartbeats 1000000 in
theorem isPart_yes (n a m : Int) (w : World) (h : Part n a m) : Calls Try.prog 41 #[.int .i64 n, .int .i64 a, .int .i64 m] w (BoolS true w) := by
  obtain ⟨h0, h1, h2, h3, h4⟩ := h
  go_enter Try.func41, Try.ntmps41
  go_wp2_with fail
  refine (isLen_yes n w h0 h1).mono ?_
  rintro e w' ⟨rfl, rfl⟩
  go_wp2_with fail
  go_ret
  exact ⟨rfl, rfl⟩
set_option maxHeartbeats 1000000 in
theorem isPart_no (n a m : Int) (w : World) (ha : I64 a) (hm : I64 m) (h : ¬ Part n a m) : Calls Try.prog 41 #[.int .i64 n, .int .i64 a, .int .i64 m] w (BoolS false w) := by
  obtain ⟨a1, a2⟩ := ha
  obtain ⟨m1, m2⟩ := hm
  unfold Part at h
  by_cases h0 : n < 0 ∨ 4096 < n
  · have K := Lib.hid (isLen_no n w h0)
    clear h h0
    go_enter Try.func41, Try.ntmps41
    go_wp2_with fail
    refine K.out.mono ?_
    rintro e w' ⟨rfl, rfl⟩
    go_wp2_with fail
    go_ret
    exact ⟨rfl, rfl⟩
  have K := Lib.hid (isLen_yes n w (by omega) (by omega))
  by_cases h1 : 0 ≤ a
  · by_cases h2 : 0 ≤ m
    · have h3 : ¬ (m ≤ n - a) := by omega
      have h4 : 0 ≤ n := by omega
      have h5 : n ≤ 4096 := by omega
      clear h h0
      go_enter Try.func41, Try.ntmps41
      go_wp2_with fail
      refine K.out.mono ?_
      rintro e w' ⟨rfl, rfl⟩
      go_wp2_with fail
      go_ret
      exact ⟨ret_bool (decide_eq_false (by omega)), rfl⟩
    · clear h h0
      go_enter Try.func41, Try.ntmps41
      go_wp2_with fail
      refine K.out.mono ?_
      rintro e w' ⟨rfl, rfl⟩
      go_wp2_with fail
      go_ret
      exact ⟨rfl, rfl⟩
  · clear h h0
    go_enter Try.func41, Try.ntmps41
    go_wp2_with fail
    refine K.out.mono ?_
    rintro e w' ⟨rfl, rfl⟩
    go_wp2_with fail
    go_ret
    exact ⟨rfl, rfl⟩

def samM (n : Int) : (Int × List Int) × Int := if 0 ≤ n ∧ n ≤ 4096 then ((n, idL n.toNat), 0) else ((0, []), 4)
set_option maxHeartbeats 1000000 in
theorem mkSame_any (n : Int) (w : World) : Calls Try.prog 21 #[.int .i64 n] w (MapE (samM n) w) := by
  unfold samM
  have hB0 := Lib.hid (below_new w (.cells #[.int .i64 0, .slice none 0 0] 24))
  have hR0 := Lib.hid (Room.new w (.int .i64 0) (.slice none 0 0))
  by_cases h : 0 ≤ n ∧ n ≤ 4096
  · rw [if_pos h]
    obtain ⟨k, rfl⟩ : ∃ i : Nat, n = i := ⟨n.toNat, by omega⟩
    rw [Int.toNat_natCast]
    have K := Lib.hid (isLen_yes k (w.alloc (.cells #[.int .i64 0, .slice none 0 0] 24)) h.1 h.2)
    have M0 : Calls Try.prog 33 #[.int .i64 k, .int .i64 k, .func (.func 39) #[] #[]] (w.alloc (.cells #[.int .i64 0, .slice none 0 0] 24)) (MapX (k, idL k) (w.alloc (.cells #[.int .i64 0, .slice none 0 0] 24))) := made39 k k (fun i => i) (by omega) (fun W _ i _ => clos39 W i)
    have M := Lib.hid M0
    clear M0
    clear h
    go_enter Try.func21, Try.ntmps21
    go_wp2_with fail
    refine K.out.mono ?_
    rintro e w' ⟨rfl, rfl⟩
    go_wp2_with fail
    refine M.out.mono ?_
    clear K M
    rintro e w3 ⟨A, rfl, hs, hf, hb⟩
    have HF := Lib.hid (mapE_set (o := k) (Nat.le_refl _) (by simp) hs hf (hB0.out.trans (hb.mono hB0.out.size)))
    have hR3 := hR0.out.keep hb
    have HR := Lib.hid hR3
    obtain ⟨u, v, c0, c1, f0, f1⟩ := hR3.open_
    clear hs hf hb hR3 hR0 hB0
    generalize idL k = l at *
    go_wp2_with fail
    exact bodyPost_ret (res_map_err (u := 3) rfl (g := w.heap.size) rfl (heap_set2 HR.out)) rfl HF.out
  · rw [if_neg h]
    have K := Lib.hid (isLen_no n (w.alloc (.cells #[.int .i64 0, .slice none 0 0] 24)) (by omega))
    clear h
    go_enter Try.func21, Try.ntmps21
    go_wp2_with fail
    refine K.out.mono ?_
    rintro e w' ⟨rfl, rfl⟩
    go_wp2_with fail
    exact bodyPost_ret (res_map_err rfl (g := w.heap.size) rfl (heap_alloc_new w _)) rfl (mapE_err hB0.out)

/-! Inserted -/
def insM (n a m : Int) : (Int × List Int) × Int := if n < 0 ∨ 4096 < n ∨ a < 0 ∨ n < a ∨ m < 0 then ((0, []), 4) else if 4096 - n < m then ((0, []), 3) else ((n, insL (idL n.toNat) a.toNat m.toNat), 0)
theorem two_box (w : World) (a m : Nat) (o : Obj) : Vn (((w.alloc (.cells #[.int .i64 a] 3)).alloc (.cells #[.int .i64 m] 3)).alloc o) w.heap.size a ∧ Vn (((w.alloc (.cells #[.int .i64 a] 3)).alloc (.cells #[.int .i64 m] 3)).alloc o) (w.heap.size + 1) m := by
  have h1 : Vn (w.alloc (.cells #[.int .i64 a] 3)) w.heap.size a := heap_alloc_new w _
  have h2 : Vn ((w.alloc (.cells #[.int .i64 a] 3)).alloc (.cells #[.int .i64 m] 3)) (w.heap.size + 1) m := new_at _ (by simp)
  exact ⟨(h1.next (below_new _ _)).next (below_new _ _), h2.next (below_new _ _)⟩
theorem below3 (w : World) (o p q : Obj) : Below w.heap.size w (((w.alloc o).alloc p).alloc q) := (((Below.refl _ _).alloc (Nat.le_refl _) _).alloc (by simp) _).alloc (by simp; omega) _
set_option maxHeartbeats 2000000 in
theorem mkIns_err {w : World} {n a m : Int} (hI : (n < 0 ∨ 4096 < n) ∨ (¬ (n < 0 ∨ 4096 < n) ∧ (a < 0 ∨ ¬ a < 0 ∧ n < a ∨ ¬ a < 0 ∧ ¬ n < a ∧ m < 0))) :
    Calls Try.prog 22 #[.int .i64 n, .int .i64 a, .int .i64 m] w (MapE ((0, []), 4) w) := by
  have hB0 := Lib.hid (below3 w (.cells #[.int .i64 a] 3) (.cells #[.int .i64 m] 3) (.cells #[.int .i64 0, .slice none 0 0] 24))
  have hR0 := Lib.hid (show (((w.alloc (.cells #[.int .i64 a] 3)).alloc (.cells #[.int .i64 m] 3)).alloc (.cells #[.int .i64 0, .slice none 0 0] 24)).heap[w.heap.size + 1 + 1]? = some (.cells #[.int .i64 0, .slice none 0 0] 24 (0, 0)) from new_at _ (by simp))
  rcases hI with h | ⟨h, h2⟩
  · have K := Lib.hid (fun W => isLen_no n W h)
    clear h
    go_enter Try.func22, Try.ntmps22
    go_wp2_with fail
    refine (K.out _).mono ?_
    rintro e w' ⟨rfl, rfl⟩
    go_wp2_with fail
    exact bodyPost_ret (res_map_err rfl (g := w.heap.size + 1 + 1) rfl hR0.out) rfl (mapE_err hB0.out)
  · have K := Lib.hid (fun W => isLen_yes n W (by omega) (by omega))
    clear h
    rcases h2 with h3 | ⟨h3, h4⟩ | ⟨h3, h4, h5⟩
    all_goals
      go_enter Try.func22, Try.ntmps22
      go_wp2_with fail
      refine (K.out _).mono ?_
      rintro e w' ⟨rfl, rfl⟩
      go_wp2_with fail
      exact bodyPost_ret (res_map_err rfl (g := w.heap.size + 1 + 1) rfl hR0.out) rfl (mapE_err hB0.out)
set_option maxHeartbeats 2000000 in
theorem mkIns_lim {w : World} {n a : Nat} {m : Int} (hn : n ≤ 4096) (ha : a ≤ n) (h0 : 0 ≤ m) (hm : 4096 - (n : Int) < m) :
    Calls Try.prog 22 #[.int .i64 n, .int .i64 a, .int .i64 m] w (MapE ((0, []), 3) w) := by
  have hB0 := Lib.hid (below3 w (.cells #[.int .i64 a] 3) (.cells #[.int .i64 m] 3) (.cells #[.int .i64 0, .slice none 0 0] 24))
  have hR0 := Lib.hid (show (((w.alloc (.cells #[.int .i64 a] 3)).alloc (.cells #[.int .i64 m] 3)).alloc (.cells #[.int .i64 0, .slice none 0 0] 24)).heap[w.heap.size + 1 + 1]? = some (.cells #[.int .i64 0, .slice none 0 0] 24 (0, 0)) from new_at _ (by simp))
  have K := Lib.hid (fun W => isLen_yes n W (by omega) (by omega))
  have h1 : ¬ (m < 0) := by omega
  have h2 : ¬ ((n : Int) < (a : Int)) := by omega
  go_enter Try.func22, Try.ntmps22
  go_wp2_with fail
  refine (K.out _).mono ?_
  rintro e w' ⟨rfl, rfl⟩
  go_wp2_with fail
  exact bodyPost_ret (res_map_err rfl (g := w.heap.size + 1 + 1) rfl hR0.out) rfl (mapE_err hB0.out)
set_option maxHeartbeats 2000000 in
theorem mkIns_ok {w : World} {n a m : Nat} (ha : a ≤ n) (hm : n + m ≤ 4096) :
    Calls Try.prog 22 #[.int .i64 n, .int .i64 a, .int .i64 m] w (MapE ((n, insL (idL n) a m), 0) w) := by
  have hB0 := Lib.hid (below3 w (.cells #[.int .i64 a] 3) (.cells #[.int .i64 m] 3) (.cells #[.int .i64 0, .slice none 0 0] 24))
  have hR0 := Lib.hid (show Room (((w.alloc (.cells #[.int .i64 a] 3)).alloc (.cells #[.int .i64 m] 3)).alloc (.cells #[.int .i64 0, .slice none 0 0] 24)) (w.heap.size + 1 + 1) from ⟨_, _, new_at _ (by simp)⟩)
  obtain ⟨b1, b2⟩ := two_box w a m (.cells #[.int .i64 0, .slice none 0 0] 24)
  have K := Lib.hid (fun W => isLen_yes n W (by omega) (by omega))
  obtain ⟨q, hq⟩ : ∃ q : Nat, n + m = q := ⟨_, rfl⟩
  have hq2 : (n : Int) + (m : Int) = (q : Int) := by omega
  have M := made40 (w := ((w.alloc (.cells #[.int .i64 a] 3)).alloc (.cells #[.int .i64 m] 3)).alloc (.cells #[.int .i64 0, .slice none 0 0] 24)) n q (insF a m) _ _ (by omega) (fun W hb i hi => clos40 (b1.next hb) (b2.next hb) (by omega) (by omega) i (by omega))
  rw [← hq, ins_made ha, hq] at M
  have M := Lib.hid M
  have h1 : ¬ ((m : Int) < 0) := by omega
  have h2 : ¬ ((n : Int) < (a : Int)) := by omega
  have h3 : ¬ (4096 - (n : Int) < (m : Int)) := by omega
  clear hq b1 b2
  go_enter Try.func22, Try.ntmps22
  go_wp2_with fail
  refine (K.out _).mono ?_
  rintro e w' ⟨rfl, rfl⟩
  go_wp2_with fail
  refine M.out.mono ?_
  clear K M
  rintro e w3 ⟨A, rfl, hs, hf, hb⟩
  have HF := Lib.hid (mapE_set (o := n) (g := w.heap.size + 1 + 1) (by omega) (by simp) hs hf (hB0.out.trans (hb.mono hB0.out.size)))
  have hR3 := hR0.out.keep hb
  have HR := Lib.hid hR3
  obtain ⟨u, v, c0, c1, f0, f1⟩ := hR3.open_
  clear hs hf hb hR3 hR0 hB0 hq2
  generalize insL (idL n) a m = l at *
  go_wp2_with fail
  exact bodyPost_ret (res_map_err (u := 7) rfl (g := w.heap.size + 1 + 1) rfl (heap_set2 HR.out)) rfl HF.out
theorem mkIns_any (w : World) (n a m : Int) : Calls Try.prog 22 #[.int .i64 n, .int .i64 a, .int .i64 m] w (MapE (insM n a m) w) := by
  unfold insM
  by_cases h : n < 0 ∨ 4096 < n ∨ a < 0 ∨ n < a ∨ m < 0
  · rw [if_pos h]
    exact mkIns_err (by omega)
  rw [if_neg h]
  obtain ⟨k, rfl⟩ : ∃ i : Nat, n = i := ⟨n.toNat, by omega⟩
  obtain ⟨i, rfl⟩ : ∃ i : Nat, a = i := ⟨a.toNat, by omega⟩
  by_cases h2 : 4096 - (k : Int) < m
  · rw [if_pos h2]
    exact mkIns_lim (by omega) (by omega) (by omega) h2
  · rw [if_neg h2]
    obtain ⟨j, rfl⟩ : ∃ i : Nat, m = i := ⟨m.toNat, by omega⟩
    rw [Int.toNat_natCast, Int.toNat_natCast, Int.toNat_natCast]
    exact mkIns_ok (by omega) (by omega)

/-! Removed -/
def remM (n a m : Int) : (Int × List Int) × Int := if 0 ≤ n ∧ n ≤ 4096 ∧ 0 ≤ a ∧ 0 ≤ m ∧ m ≤ n - a then ((n, remL (idL n.toNat) a.toNat m.toNat), 0) else ((0, []), 4)
/-- the function of the others is made -/
theorem others_any (w : World) (a m : Nat) : Calls Try.prog 42 #[.int .i64 a, .int .i64 m] w fun e w' => e = .returned (.func (.func 44) #[] #[.pointer (some ⟨w.heap.size, 0, none⟩), .pointer (some ⟨w.heap.size + 1, 0, none⟩)]) ∧ w' = (w.alloc (.cells #[.int .i64 a] 3)).alloc (.cells #[.int .i64 m] 3) := by
  go_enter Try.func42, Try.ntmps42
  go_wp2_with fail
  go_ret
  exact ⟨rfl, rfl⟩
theorem two_box2 (w : World) (a m : Nat) : Vn ((w.alloc (.cells #[.int .i64 a] 3)).alloc (.cells #[.int .i64 m] 3)) w.heap.size a ∧ Vn ((w.alloc (.cells #[.int .i64 a] 3)).alloc (.cells #[.int .i64 m] 3)) (w.heap.size + 1) m := by
  have h1 : Vn (w.alloc (.cells #[.int .i64 a] 3)) w.heap.size a := heap_alloc_new w _
  have h2 : Vn ((w.alloc (.cells #[.int .i64 a] 3)).alloc (.cells #[.int .i64 m] 3)) (w.heap.size + 1) m := new_at _ (by simp)
  exact ⟨h1.next (below_new _ _), h2⟩
theorem below2 (w : World) (o p : Obj) : Below w.heap.size w ((w.alloc o).alloc p) := ((Below.refl _ _).alloc (Nat.le_refl _) _).alloc (by simp) _
set_option maxHeartbeats 2000000 in
theorem mkRem_ok {w : World} {n a m : Nat} (ha : a + m ≤ n) (hn : n ≤ 4096) :
    Calls Try.prog 23 #[.int .i64 n, .int .i64 a, .int .i64 m] w (MapE ((n, remL (idL n) a m), 0) w) := by
  obtain ⟨V, hV⟩ : ∃ V : World, w.alloc (.cells #[.int .i64 0, .slice none 0 0] 24) = V := ⟨_, rfl⟩
  have hB0 : Below w.heap.size w V := by rw [← hV]; exact below_new w _
  have hR0 : Room V w.heap.size := by rw [← hV]; exact Room.new w _ _
  have hsz : V.heap.size = w.heap.size + 1 := by rw [← hV]; simp
  obtain ⟨g, hg⟩ : ∃ g : Nat, V.heap.size = g := ⟨_, rfl⟩
  obtain ⟨b1, b2⟩ := two_box2 V a m
  have hB1 := below2 V (.cells #[.int .i64 a] 3) (.cells #[.int .i64 m] 3)
  obtain ⟨U, hU⟩ : ∃ U : World, (V.alloc (.cells #[.int .i64 a] 3)).alloc (.cells #[.int .i64 m] 3) = U := ⟨_, rfl⟩
  rw [hU] at b1 b2 hB1
  obtain ⟨q, hq⟩ : ∃ q : Nat, n - m = q := ⟨_, rfl⟩
  have hq2 : (n : Int) - (m : Int) = (q : Int) := by omega
  have M := made44 (w := U) n q (othF a m) _ _ (by omega) (fun W hb i hi => clos44 (b1.next hb) (b2.next hb) (by omega) i (by omega))
  rw [← hq, rem_made ha, hq] at M
  have K := Lib.hid (fun W => isPart_yes n a m W (by unfold Part; omega))
  have O := others_any V a m
  rw [hU, hg] at O
  rw [hg] at M
  have M := Lib.hid M
  have O := Lib.hid O
  have HB := Lib.hid (show _ ∧ _ ∧ _ ∧ _ from ⟨hB0, hB1, hR0, hsz⟩)
  clear hq b1 b2 hB0 hB1 hR0 hsz hg hU
  go_enter Try.func23, Try.ntmps23
  go_wp2_with fail
  refine (K.out _).mono ?_
  rintro e w' ⟨rfl, rfl⟩
  go_wp2_with fail
  clear hV
  refine O.out.mono ?_
  rintro e w' ⟨rfl, rfl⟩
  clear O K
  go_wp2_with fail
  refine M.out.mono ?_
  clear M
  rintro e w3 ⟨A, rfl, hs, hf, hb⟩
  obtain ⟨hB0, hB1, hR0, hsz⟩ := HB.out
  have hf2 : Far V A := hf.mono hB1.size
  have hB2 := hB0.trans ((hB1.trans (hb.mono hB1.size)).mono hB0.size)
  have HF := Lib.hid (mapE_set (o := n) (Nat.le_refl w.heap.size) (by omega) hs hf2 hB2)
  have hR3 := (hR0.keep hB1).keep hb
  have HR := Lib.hid hR3
  obtain ⟨u, v, c0, c1, f0, f1⟩ := hR3.open_
  clear hs hf hb hR3 hR0 hB0 hq2 hf2 hB2 hB1 HB hsz
  generalize remL (idL n) a m = l at *
  go_wp2_with fail
  exact bodyPost_ret (res_map_err (u := 7) rfl (g := w.heap.size) rfl (heap_set2 HR.out)) rfl HF.out
set_option maxHeartbeats 2000000 in
theorem mkRem_any (w : World) (n a m : Int) (ha : I64 a) (hm : I64 m) : Calls Try.prog 23 #[.int .i64 n, .int .i64 a, .int .i64 m] w (MapE (remM n a m) w) := by
  unfold remM
  by_cases h : 0 ≤ n ∧ n ≤ 4096 ∧ 0 ≤ a ∧ 0 ≤ m ∧ m ≤ n - a
  · rw [if_pos h]
    obtain ⟨n, rfl⟩ : ∃ i : Nat, n = i := ⟨n.toNat, by omega⟩
    obtain ⟨a, rfl⟩ : ∃ i : Nat, a = i := ⟨a.toNat, by omega⟩
    obtain ⟨m, rfl⟩ : ∃ i : Nat, m = i := ⟨m.toNat, by omega⟩
    rw [Int.toNat_natCast, Int.toNat_natCast, Int.toNat_natCast]
    exact mkRem_ok (by omega) (by omega)
  · rw [if_neg h]
    have K := Lib.hid (fun W => isPart_no n a m W ha hm h)
    have hB0 := Lib.hid (below_new w (.cells #[.int .i64 0, .slice none 0 0] 24))
    clear h
    go_enter Try.func23, Try.ntmps23
    go_wp2_with fail
    refine (K.out _).mono ?_
    rintro e w' ⟨rfl, rfl⟩
    go_wp2_with fail
    exact bodyPost_ret (res_map_err rfl (g := w.heap.size) rfl (heap_alloc_new w _)) rfl (mapE_err hB0.out)

/-! Moved -/
def movM (n a m t : Int) : (Int × List Int) × Int := if (0 ≤ n ∧ n ≤ 4096 ∧ 0 ≤ a ∧ 0 ≤ m ∧ m ≤ n - a) ∧ 0 ≤ t ∧ t ≤ n - m then ((n, movL (idL n.toNat) a.toNat m.toNat t.toNat), 0) else ((0, []), 4)
theorem below4 (w : World) (o p q r : Obj) : Below w.heap.size w ((((w.alloc o).alloc p).alloc q).alloc r) := (below3 w o p q).alloc (by simp; omega) _
theorem three_box (w : World) (a m t : Nat) (o : Obj) : Vn ((((w.alloc (.cells #[.int .i64 a] 3)).alloc (.cells #[.int .i64 m] 3)).alloc (.cells #[.int .i64 t] 3)).alloc o) w.heap.size a ∧ Vn ((((w.alloc (.cells #[.int .i64 a] 3)).alloc (.cells #[.int .i64 m] 3)).alloc (.cells #[.int .i64 t] 3)).alloc o) (w.heap.size + 1) m ∧
    Vn ((((w.alloc (.cells #[.int .i64 a] 3)).alloc (.cells #[.int .i64 m] 3)).alloc (.cells #[.int .i64 t] 3)).alloc o) (w.heap.size + 1 + 1) t := by
  obtain ⟨h1, h2⟩ := two_box w a m (.cells #[.int .i64 t] 3)
  have h3 : Vn (((w.alloc (.cells #[.int .i64 a] 3)).alloc (.cells #[.int .i64 m] 3)).alloc (.cells #[.int .i64 t] 3)) (w.heap.size + 1 + 1) t := new_at _ (by simp)
  exact ⟨h1.next (below_new _ _), h2.next (below_new _ _), h3.next (below_new _ _)⟩
set_option maxHeartbeats 4000000 in
theorem mkMov_ok {w : World} {n a m t : Nat} (ha : a + m ≤ n) (ht : t ≤ n - m) (hn : n ≤ 4096) :
    Calls Try.prog 24 #[.int .i64 n, .int .i64 a, .int .i64 m, .int .i64 t] w (MapE ((n, movL (idL n) a m t), 0) w) := by
  obtain ⟨V, hV⟩ : ∃ V : World, (((w.alloc (.cells #[.int .i64 a] 3)).alloc (.cells #[.int .i64 m] 3)).alloc (.cells #[.int .i64 t] 3)).alloc (.cells #[.int .i64 0, .slice none 0 0] 24) = V := ⟨_, rfl⟩
  have hB0 : Below w.heap.size w V := by rw [← hV]; exact below4 w _ _ _ _
  have hR0 : Room V (w.heap.size + 1 + 1 + 1) := by rw [← hV]; exact ⟨_, _, new_at _ (by simp)⟩
  have hsz : V.heap.size = w.heap.size + 1 + 1 + 1 + 1 := by rw [← hV]; simp
  obtain ⟨x1, x2, x3⟩ := three_box w a m t (.cells #[.int .i64 0, .slice none 0 0] 24)
  rw [hV] at x1 x2 x3
  obtain ⟨g, hg⟩ : ∃ g : Nat, V.heap.size = g := ⟨_, rfl⟩
  obtain ⟨b1, b2⟩ := two_box2 V a m
  have hB1 := below2 V (.cells #[.int .i64 a] 3) (.cells #[.int .i64 m] 3)
  obtain ⟨U, hU⟩ : ∃ U : World, (V.alloc (.cells #[.int .i64 a] 3)).alloc (.cells #[.int .i64 m] 3) = U := ⟨_, rfl⟩
  rw [hU, hg] at b1 b2
  rw [hU] at hB1
  have hvf : Vf (U.alloc (.cells #[.func (.func 44) #[] #[.pointer (some ⟨g, 0, none⟩), .pointer (some ⟨g + 1, 0, none⟩)]] 65)) U.heap.size g (g + 1) := heap_alloc_new U _
  have hB2 := below_new U (.cells #[.func (.func 44) #[] #[.pointer (some ⟨g, 0, none⟩), .pointer (some ⟨g + 1, 0, none⟩)]] 65)
  have hq2 : t ≤ 4096 := by omega
  have c1 : Vn _ (w.heap.size) a := (x1.next hB1).next hB2
  have c2 : Vn _ (w.heap.size + 1) m := (x2.next hB1).next hB2
  have c3 : Vn _ (w.heap.size + 1 + 1) t := (x3.next hB1).next hB2
  have M := made43 (w := U.alloc (.cells #[.func (.func 44) #[] #[.pointer (some ⟨g, 0, none⟩), .pointer (some ⟨g + 1, 0, none⟩)]] 65)) n n (movF a m t) _ _ _ _ hn (fun W hb i hi => clos43 (c3.next hb) (hvf.next hb) ((b1.next hB2).next hb) ((b2.next hB2).next hb) (c1.next hb) (c2.next hb) (by omega) (by omega) hq2 i (by omega))
  rw [mov_made ha ht] at M
  have K := Lib.hid (fun W => isPart_yes n a m W (by unfold Part; omega))
  have O := others_any V a m
  rw [hU, hg] at O
  have M := Lib.hid M
  have O := Lib.hid O
  have HB := Lib.hid (show _ ∧ _ ∧ _ ∧ _ from ⟨hB0, hB1.trans (hB2.mono hB1.size), hR0, hsz⟩)
  have y1 := x1.cell
  have y2 := x2.cell
  have y3 := x3.cell
  have h1 : ¬ ((t : Int) < 0) := by omega
  have h2 : ¬ ((n : Int) - (m : Int) < (t : Int)) := by omega
  clear b1 b2 hB0 hB1 hR0 hsz hg hU x1 x2 x3 c1 c2 c3 hvf hB2
  go_enter Try.func24, Try.ntmps24
  go_wp2_with fail
  refine (K.out _).mono ?_
  rintro e w' ⟨rfl, rfl⟩
  go_wp2_with fail
  clear hV
  refine O.out.mono ?_
  rintro e w' ⟨rfl, rfl⟩
  clear O K
  go_wp2_with fail
  refine M.out.mono ?_
  clear M
  rintro e w3 ⟨A, rfl, hs, hf, hb⟩
  obtain ⟨hB0, hB1, hR0, hsz⟩ := HB.out
  have hf2 : Far V A := hf.mono hB1.size
  have hB2 := hB0.trans ((hB1.trans (hb.mono hB1.size)).mono hB0.size)
  have HF := Lib.hid (mapE_set (o := n) (g := w.heap.size + 1 + 1 + 1) (by omega) (by omega) hs hf2 hB2)
  have hR3 := (hR0.keep hB1).keep hb
  have HR := Lib.hid hR3
  obtain ⟨u, v, c0, c1, f0, f1⟩ := hR3.open_
  clear hs hf hb hR3 hR0 hB0 hf2 hB2 hB1 HB hsz
  generalize movL (idL n) a m t = l at *
  go_wp2_with fail
  exact bodyPost_ret (res_map_err (u := 9) rfl (g := w.heap.size + 1 + 1 + 1) rfl (heap_set2 HR.out)) rfl HF.out
set_option maxHeartbeats 2000000 in
theorem mkMov_any (w : World) (n a m t : Int) (ha : I64 a) (hm : I64 m) : Calls Try.prog 24 #[.int .i64 n, .int .i64 a, .int .i64 m, .int .i64 t] w (MapE (movM n a m t) w) := by
  unfold movM
  by_cases h : 0 ≤ n ∧ n ≤ 4096 ∧ 0 ≤ a ∧ 0 ≤ m ∧ m ≤ n - a
  · by_cases h2 : 0 ≤ t ∧ t ≤ n - m
    · rw [if_pos ⟨h, h2⟩]
      obtain ⟨n, rfl⟩ : ∃ i : Nat, n = i := ⟨n.toNat, by omega⟩
      obtain ⟨a, rfl⟩ : ∃ i : Nat, a = i := ⟨a.toNat, by omega⟩
      obtain ⟨m, rfl⟩ : ∃ i : Nat, m = i := ⟨m.toNat, by omega⟩
      obtain ⟨t, rfl⟩ : ∃ i : Nat, t = i := ⟨t.toNat, by omega⟩
      rw [Int.toNat_natCast, Int.toNat_natCast, Int.toNat_natCast, Int.toNat_natCast]
      exact mkMov_ok (by omega) (by omega) (by omega)
    · rw [if_neg (fun h => h2 h.2)]
      have K := Lib.hid (fun W => isPart_yes n a m W h)
      have hB0 := Lib.hid (below4 w (.cells #[.int .i64 a] 3) (.cells #[.int .i64 m] 3) (.cells #[.int .i64 t] 3) (.cells #[.int .i64 0, .slice none 0 0] 24))
      have hR0 := Lib.hid (show ((((w.alloc (.cells #[.int .i64 a] 3)).alloc (.cells #[.int .i64 m] 3)).alloc (.cells #[.int .i64 t] 3)).alloc (.cells #[.int .i64 0, .slice none 0 0] 24)).heap[w.heap.size + 1 + 1 + 1]? = some (.cells #[.int .i64 0, .slice none 0 0] 24 (0, 0)) from new_at _ (by simp))
      obtain ⟨p1, p2, p3, p4, p5⟩ := h
      rcases (show t < 0 ∨ (¬ (t < 0) ∧ n - m < t) by omega) with h3 | ⟨h3, h4⟩
      all_goals
        clear h2
        go_enter Try.func24, Try.ntmps24
        go_wp2_with fail
        refine (K.out _).mono ?_
        rintro e w' ⟨rfl, rfl⟩
        go_wp2_with fail
        exact bodyPost_ret (res_map_err rfl (g := w.heap.size + 1 + 1 + 1) rfl hR0.out) rfl (mapE_err hB0.out)
  · rw [if_neg (fun h2 => h h2.1)]
    have K := Lib.hid (fun W => isPart_no n a m W ha hm h)
    have hB0 := Lib.hid (below4 w (.cells #[.int .i64 a] 3) (.cells #[.int .i64 m] 3) (.cells #[.int .i64 t] 3) (.cells #[.int .i64 0, .slice none 0 0] 24))
    have hR0 := Lib.hid (show ((((w.alloc (.cells #[.int .i64 a] 3)).alloc (.cells #[.int .i64 m] 3)).alloc (.cells #[.int .i64 t] 3)).alloc (.cells #[.int .i64 0, .slice none 0 0] 24)).heap[w.heap.size + 1 + 1 + 1]? = some (.cells #[.int .i64 0, .slice none 0 0] 24 (0, 0)) from new_at _ (by simp))
    clear h
    go_enter Try.func24, Try.ntmps24
    go_wp2_with fail
    refine (K.out _).mono ?_
    rintro e w' ⟨rfl, rfl⟩
    go_wp2_with fail
    exact bodyPost_ret (res_map_err rfl (g := w.heap.size + 1 + 1 + 1) rfl hR0.out) rfl (mapE_err hB0.out)
end Go.Proofs.Ytakgnpmfnechhaa
