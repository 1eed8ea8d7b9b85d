/- The walks of the reference's F, and of the law's same. -/
import Derived.Test.YtfkjnepafgehiaaInsW
import Derived.Test.YtfkjnepafgehiaaListW
namespace Go.Proofs.Ytfkjnepafgehiaa
open Go.RowKit

set_option maxHeartbeats 1000000 in
theorem refF_any (d : Nat) (hd : d ≤ 16) (w : World) : Calls Try.prog 40 #[.int .i64 d] w fun e w' => e = .returned (.int .i64 (F d)) ∧ w = w' := by
  go_enter Try.func40, Try.ntmps40
  go_wp2_with fail
  go_loop [3, 4, 5] (fun a b k => ∃ n : Nat, n ≤ d ∧ k = .int .i64 n ∧ a = .int .i64 (F n) ∧ b = .int .i64 (F (n + 1))) (fun _ _ k => d - (intOf k).toNat)
  case atStart => exact ⟨0, Nat.zero_le _, rfl, rfl, rfl⟩
  case round =>
    obtain ⟨n, hn, rfl, rfl, rfl⟩ := hrel
    by_cases hlt : n < d
    · have h1 : F (n + 1) ≤ 4180 := F_mono (a := n + 1) (b := 17) (by omega)
      have h2 : F n ≤ 4180 := F_mono (a := n) (b := 17) (by omega)
      have HF := Lib.hid (show F (n + 2) = F (n + 1) + F n + 1 from rfl)
      obtain ⟨x, hx⟩ : ∃ x, F n = x := ⟨_, rfl⟩
      obtain ⟨y, hy⟩ : ∃ y, F (n + 1) = y := ⟨_, rfl⟩
      rw [hx, hy] at HF
      rw [hx] at h2 ⊢
      rw [hy] at h1 ⊢
      have HY := Lib.hid hy
      clear hx hy
      go_wp2_with fail
      go_round
      case rel => exact ⟨n + 1, by omega, by go_num, by rw [HY.out], by rw [show n + 1 + 1 = n + 2 from rfl, HF.out]; go_num⟩
      case measure => simp [intOf]; omega
    · obtain rfl : n = d := by omega
      go_wp2_with fail
      go_ret
      exact ⟨rfl, rfl⟩

theorem vd_ok {l : List Int} (h : Vd l) : Ok l := h.ok
theorem vd_pre (t : T) : pre t.list t.count = t.total := pre_count t
/-- small reads of a rope, world by world -/
theorem len_below (c x d : Int) (p : Option Addr) (w : World) : Calls Try.prog 36 #[.agg #[.int .i64 c, .int .i64 x, .int .i64 d, .pointer p]] w fun e w' => e = .returned (.int .i64 c) ∧ Below w.heap.size w w' :=
  (len_any c x d p w).mono fun _ _ ⟨he, hw⟩ => ⟨he, hw ▸ (Below.refl _ _).alloc (Nat.le_refl _) _⟩
theorem total_below (c x d : Int) (p : Option Addr) (w : World) : Calls Try.prog 26 #[.agg #[.int .i64 c, .int .i64 x, .int .i64 d, .pointer p]] w fun e w' => e = .returned (.int .i64 x) ∧ Below w.heap.size w w' :=
  (total_any c x d p w).mono fun _ _ ⟨he, hw⟩ => ⟨he, hw ▸ (Below.refl _ _).alloc (Nat.le_refl _) _⟩
theorem depth_below (c x d : Int) (p : Option Addr) (w : World) : Calls Try.prog 35 #[.agg #[.int .i64 c, .int .i64 x, .int .i64 d, .pointer p]] w fun e w' => e = .returned (.int .i64 d) ∧ Below w.heap.size w w' :=
  (depth_any c x d p w).mono fun _ _ ⟨he, hw⟩ => ⟨he, hw ▸ (Below.refl _ _).alloc (Nat.le_refl _) _⟩

/-- what same has in memory -/
structure SaW (w : World) (t : T) (p A : Option Addr) (S : Nat) (W : World) : Prop where
  box : W.heap[w.heap.size]? = some (.cells (rc t.count t.total t.depth p) 27 (0, 0))
  own : W.heap[S]? = some (.cells (ints t.list) 2 (0, 0))
  rd : RdI W W.heap.size A t.list
  u : Below w.heap.size w W
theorem SaW.next {w W W' : World} {t : T} {p A : Option Addr} {S : Nat} (h : SaW w t p A S W) (kk : Below W.heap.size W W') : SaW w t p A S W' :=
  ⟨keep_heap kk h.box, keep_heap kk h.own, h.rd.next kk, h.u.trans (kk.mono h.u.size)⟩
theorem SaW.drewN {w W : World} {t : T} {p A : Option Addr} {S : Nat} (h : SaW w t p A S W) (n : Nat) : SaW w t p A S (W.drewN n) := h.next (by exact ⟨rfl, rfl, rfl, Nat.le_refl _, fun _ _ => rfl⟩)

set_option maxHeartbeats 4000000 in
theorem same_any {t : T} {p A : Option Addr} {c : Nat} {f : Int} {w : World} (hn : Nd w t p) (hb : t.Bal) (hv : Vd t.list) (hr : RdI w w.heap.size A t.list) :
    Calls Try.prog 12 #[.agg #[.int .i64 t.count, .int .i64 t.total, .int .i64 t.depth, .pointer p], .int .i64 f, .slice A t.count c, .int .i64 f] w fun e w' => e = .returned (.bool true) ∧ Below w.heap.size w w' := by
  have ho := hv.ok
  obtain ⟨b1, b2, b3, _⟩ := T.bounds ho
  have b4 := T.depth_16 hb b3
  have b5 := T.F_le hb
  have hB0 := (Below.refl w.heap.size w).alloc (Nat.le_refl _) (.cells #[.int .i64 t.count, .int .i64 t.total, .int .i64 t.depth, .pointer p] 27)
  have hX := heap_alloc_new w (.cells (rc t.count t.total t.depth p) 27)
  have HL := Lib.hid (list_any (w := w.alloc (.cells #[.int .i64 t.count, .int .i64 t.total, .int .i64 t.depth, .pointer p] 27)) (hn.below hB0) ho)
  have HX := Lib.hid hX
  have HRD := Lib.hid ((hr.below hB0).more hB0.size)
  have HS : Hid (∀ W, RdI W W.heap.size A t.list → Calls Try.prog 22 #[.slice A t.count c, .int .i64 t.count] W fun e w' => e = .returned (.int .i64 t.total) ∧ W = w') := Lib.hid (fun W hW => by
    have := refSum_any A c t.list W hW hv t.list.length (Nat.le_refl _)
    rw [T.len, vd_pre] at this
    exact this)
  have HFF := Lib.hid (fun W => refF_any t.depth b4 W)
  have HLEN := Lib.hid t.len
  have e1 : decide ((t.depth : Int) < 0) = false := by simp
  have e2 : decide ((40 : Int) < (t.depth : Int)) = false := by simp; omega
  have e3 : decide (t.count < F t.depth) = false := by simp; omega
  have hdp : 0 < t.count → 1 ≤ t.depth := fun h => by
    obtain ⟨l, s, r, rfl⟩ := T.count_pos h
    simp [T.depth]
  have HD := Lib.hid hdp
  clear hn hb hv hr ho hX b5 hdp
  go_enter Try.func12, Try.ntmps12
  go_wp2_with fail
  refine HL.out.mono ?_
  rintro e w1 ⟨S, rfl, h1, h2, kk⟩
  have M1 := Lib.hid (show SaW w t p A S w1 from ⟨keep_heap kk HX.out, h1, HRD.out.next kk, hB0.trans (kk.mono hB0.size)⟩)
  obtain ⟨x0, x1, x2, x3⟩ := rc_cells M1.out.box
  rw [HLEN.out]
  clear kk h1 h2 hB0 HL HX HRD
  go_wp2_with fail
  refine (len_below _ _ _ _ _).mono ?_
  rintro e w2 ⟨rfl, kk⟩
  have M2 := Lib.hid (M1.out.next kk)
  clear x0 x1 x2 x3 kk M1
  obtain ⟨x0, x1, x2, x3⟩ := rc_cells M2.out.box
  go_wp2_with fail
  refine (total_below _ _ _ _ _).mono ?_
  rintro e w3 ⟨rfl, kk⟩
  have M3 := Lib.hid (M2.out.next kk)
  clear x0 x1 x2 x3 kk M2
  obtain ⟨x0, x1, x2, x3⟩ := rc_cells M3.out.box
  go_wp2_with fail
  refine (HS.out _ M3.out.rd).mono ?_
  rintro e w3 ⟨rfl, rfl⟩
  go_wp2_with fail
  refine (depth_below _ _ _ _ _).mono ?_
  rintro e w4 ⟨rfl, kk⟩
  have M4 := Lib.hid (M3.out.next kk)
  clear x0 x1 x2 x3 kk M3
  obtain ⟨x0, x1, x2, x3⟩ := rc_cells M4.out.box
  go_wp2_with fail
  refine (depth_below _ _ _ _ _).mono ?_
  rintro e w5 ⟨rfl, kk⟩
  have M5 := Lib.hid (M4.out.next kk)
  clear x0 x1 x2 x3 kk M4
  obtain ⟨x0, x1, x2, x3⟩ := rc_cells M5.out.box
  go_wp2_with fail
  refine (depth_below _ _ _ _ _).mono ?_
  rintro e w6 ⟨rfl, kk⟩
  have M6 := Lib.hid (M5.out.next kk)
  clear x0 x1 x2 x3 kk M5
  obtain ⟨x0, x1, x2, x3⟩ := rc_cells M6.out.box
  go_wp2_with fail
  refine (HFF.out _).mono ?_
  rintro e w6 ⟨rfl, rfl⟩
  rcases Nat.eq_zero_or_pos t.count with h0 | h0
  · have e4 : decide (0 < t.count) = false := by simp; omega
    have e5 : t.count ≤ 0 := by omega
    clear h0
    go_wp2_with fail
    go_loopw [10] (fun k wr => ∃ n m : Nat, n ≤ t.count ∧ k = .int .i64 n ∧ wr = w6.drewN m) (fun k _ => t.count - (intOf k).toNat)
    case atStart => exact ⟨0, 0, Nat.zero_le _, rfl, rfl⟩
    case round =>
      obtain ⟨n, m, hn, rfl, rfl⟩ := hrel
      by_cases hlt : n < t.count
      · have hlt2 : n < t.list.length := by rw [HLEN.out]; exact hlt
        obtain ⟨b, o, rfl, hbb, hc⟩ := M6.out.rd n hlt2
        have hc' := row_cell M6.out.own n hlt2
        generalize t.list[n] = v at *
        go_wp2_with fail
        go_quiet (fail)
        go_wp2_with fail
        go_roundw
        case rel => exact ⟨n + 1, _, by omega, by go_num, rfl⟩
        case measure => simp [intOf]; omega
      · go_wp2_with fail
        go_ret
        exact ⟨rfl, (M6.out.drewN m).u⟩
  · have hd1 := HD.out h0
    have e5 : decide (t.depth < 1) = false := by simp; omega
    go_wp2_with fail
    refine (depth_below _ _ _ _ _).mono ?_
    rintro e w7 ⟨rfl, kk⟩
    have M7 := Lib.hid (M6.out.next kk)
    clear x0 x1 x2 x3 kk M6
    go_wp2_with fail
    go_loopw [10] (fun k wr => ∃ n m : Nat, n ≤ t.count ∧ k = .int .i64 n ∧ wr = w7.drewN m) (fun k _ => t.count - (intOf k).toNat)
    case atStart => exact ⟨0, 0, Nat.zero_le _, rfl, rfl⟩
    case round =>
      obtain ⟨n, m, hn, rfl, rfl⟩ := hrel
      by_cases hlt : n < t.count
      · have hlt2 : n < t.list.length := by rw [HLEN.out]; exact hlt
        obtain ⟨b, o, rfl, hbb, hc⟩ := M7.out.rd n hlt2
        have hc' := row_cell M7.out.own n hlt2
        generalize t.list[n] = v at *
        go_wp2_with fail
        go_quiet (fail)
        go_wp2_with fail
        go_roundw
        case rel => exact ⟨n + 1, _, by omega, by go_num, rfl⟩
        case measure => simp [intOf]; omega
      · go_wp2_with fail
        go_ret
        exact ⟨rfl, (M7.out.drewN m).u⟩
end Go.Proofs.Ytfkjnepafgehiaa
