/- The list's At. -/
import Derived.Test.YtdejdnkkbpmmlaaMLw4W
namespace Go.Proofs.Ytdejdnkkbpmmlaa
open Go.RowKit

/-- where a place lies in the list -/
def RAtR (r : List (Int × Bool)) (x : Int) (w : World) (e : Ending) (w' : World) : Prop :=
  w = w' ∧ ((∃ k : Nat, Place (sz r) x k ∧ e = .returned (.tuple #[.int .i64 k, .int .i64 (x - pre (sz r) k)])) ∨ ((x < 0 ∨ (sz r).sum ≤ x) ∧ e = .returned (.tuple #[.int .i64 (-1), .int .i64 0])))
set_option maxRecDepth 100000 in
set_option maxHeartbeats 4000000 in
theorem refAt_any {w : World} {r : List (Int × Bool)} {A : Option Addr} (c : Nat) (hr : RdR w w.heap.size A r) (hv : Vr r) (x : Int) : Calls Try.prog 16 #[.slice A r.length c, .int .i64 x] w (RAtR r x w) := by
  have hln := hv.len
  have HR := Lib.hid hr
  have HV := Lib.hid hv
  clear hr hv
  go_enter Try.func16, Try.ntmps16
  go_wp2_with fail
  go_loop [6] (fun k => ∃ j : Nat, j ≤ r.length ∧ k = .int .i64 j ∧ Hid (x < 0 ∨ pre (sz r) j ≤ x)) (fun k => r.length - (intOf k).toNat)
  case atStart => exact ⟨0, Nat.zero_le _, rfl, Lib.hid (by rw [pre_zero]; omega)⟩
  case round =>
    obtain ⟨j, hj, rfl, HX⟩ := hrel
    by_cases hlt : j < r.length
    · obtain ⟨b, o, rfl, hb, c0, c1⟩ := HR.out j hlt
      have hjs : j < (sz r).length := by rw [sz_len]; exact hlt
      have hs : pre (sz r) (j + 1) = pre (sz r) j + r[j].1 := by rw [pre_succ hjs, sz_get hlt]
      have h1 := HV.out.vd.lo j
      have h2 := HV.out.vd.hi j
      have h3 := HV.out.vd.lo (j + 1)
      have h4 := HV.out.vd.hi (j + 1)
      have HC := Lib.hid (rtop_any (some ⟨b, o, none⟩) c r w HR.out HV.out.vd j hj)
      obtain ⟨v, hvv⟩ : ∃ v, r[j].1 = v := ⟨_, rfl⟩
      obtain ⟨q, hq⟩ : ∃ q, pre (sz r) j = q := ⟨_, rfl⟩
      rw [hvv] at c0 hs
      rw [hq] at h1 h2 hs HX HC
      rw [hs] at h3 h4
      have HS := Lib.hid hs
      have HQ := Lib.hid hq
      have HJS := Lib.hid hjs
      clear hs hvv hq hjs
      go_wp2_with fail
      refine HC.out.mono ?_
      rintro e w' ⟨rfl, rfl⟩
      clear HC
      have a1 : IntKind.i64.wrap (q + v) = q + v := IntWalk.i64_in _ (by omega)
      by_cases hq : q ≤ x
      · by_cases hx : x < q + v
        · have a2 : IntKind.i64.wrap (x - q) = x - q := IntWalk.i64_in _ (by omega)
          have HP := Lib.hid (show Place (sz r) x j from ⟨HJS.out, by rw [HQ.out]; exact hq, by rw [HS.out]; exact hx⟩)
          go_wp2_with fail
          go_ret2
          exact ⟨rfl, Or.inl ⟨j, HP.out, by rw [HQ.out]; rfl⟩⟩
        · have HN := Lib.hid (show x < 0 ∨ pre (sz r) (j + 1) ≤ x from Or.inr (by rw [HS.out]; omega))
          go_wp2_with fail
          go_round
          case rel => exact ⟨j + 1, by omega, by go_num, HN⟩
          case measure => simp [intOf]; omega
      · have HN := Lib.hid (show x < 0 ∨ pre (sz r) (j + 1) ≤ x from Or.inl (by have := HX.out; omega))
        go_wp2_with fail
        go_round
        case rel => exact ⟨j + 1, by omega, by go_num, HN⟩
        case measure => simp [intOf]; omega
    · obtain rfl : j = r.length := by omega
      have HF := Lib.hid (show x < 0 ∨ (sz r).sum ≤ x by rw [← pre_full]; exact HX.out)
      go_wp2_with fail
      go_ret2
      exact ⟨rfl, Or.inr ⟨HF.out, rfl⟩⟩
theorem vd_nn {r : List (Int × Bool)} (hv : Vr r) : ∀ k (h : k < (sz r).length), 0 ≤ (sz r)[k] := fun k h => by have := hv.pos _ (List.getElem_mem h); omega
theorem place_ex {l : List Int} {x : Int} (h0 : 0 ≤ x) (h1 : x < pre l l.length) : ∃ i, Place l x i := by
  have : ∀ n, n ≤ l.length → x < pre l n → ∃ i, Place l x i := by
    intro n
    induction n with
    | zero => intro _ h; rw [pre_zero] at h; omega
    | succ n ih =>
      intro hn h
      by_cases hx : x < pre l n
      · exact ih (by omega) hx
      · exact ⟨n, by omega, by omega, h⟩
  exact this _ (Nat.le_refl _) h1
theorem pre_len (r : List (Int × Bool)) : pre (sz r) (sz r).length = (sz r).sum := by rw [sz_len, pre_full]
/-- the place, in an index and in the list -/
theorem both_place {r : List (Int × Bool)} (hv : Vr r) (x : Int) :
    (∃ (k : Nat) (y : Int), (∀ (U : World) (t : T) (p A : Option Addr) (c : Nat) (xs : List S.Sp), Ix U r t p A c xs → Calls Try.prog 13 #[.agg #[.int .i64 t.count, .int .i64 t.total, .int .i64 t.depth, .pointer p, .slice A xs.length c], .int .i64 x] U fun e w' => e = .returned (.tuple #[.int .i64 k, .int .i64 y, .int .i64 0]) ∧ Below U.heap.size U w') ∧
      (∀ (U : World) (A : Option Addr) (c : Nat), RdR U U.heap.size A r → Calls Try.prog 16 #[.slice A r.length c, .int .i64 x] U fun e w' => e = .returned (.tuple #[.int .i64 k, .int .i64 y]) ∧ U = w')) ∨
    ((∀ (U : World) (t : T) (p A : Option Addr) (c : Nat) (xs : List S.Sp), Ix U r t p A c xs → Calls Try.prog 13 #[.agg #[.int .i64 t.count, .int .i64 t.total, .int .i64 t.depth, .pointer p, .slice A xs.length c], .int .i64 x] U fun e w' => e = .returned (.tuple #[.int .i64 0, .int .i64 0, .int .i64 4]) ∧ Below U.heap.size U w') ∧
      (∀ (U : World) (A : Option Addr) (c : Nat), RdR U U.heap.size A r → Calls Try.prog 16 #[.slice A r.length c, .int .i64 x] U fun e w' => e = .returned (.tuple #[.int .i64 (-1), .int .i64 0]) ∧ U = w')) := by
  by_cases h : x < 0 ∨ (sz r).sum ≤ x
  · refine Or.inr ⟨fun U t p A c xs hix => at_out hix x h, fun U A c hr => (refAt_any c hr hv x).mono ?_⟩
    rintro e w' ⟨rfl, ⟨k, hp, rfl⟩ | ⟨_, rfl⟩⟩
    · have h1 := hp.lo
      have h2 := hp.hi
      have h3 := hv.vd.lo k
      have h4 := pre_mono (vd_nn hv) (show k + 1 ≤ (sz r).length from hp.lt)
      rw [pre_len] at h4
      omega
    · exact ⟨rfl, rfl⟩
  · obtain ⟨k, hp⟩ := place_ex (l := sz r) (x := x) (by omega) (by rw [pre_len]; omega)
    refine Or.inl ⟨k, x - pre (sz r) k, fun U t p A c xs hix => at_in hix hp, fun U A c hr => (refAt_any c hr hv x).mono ?_⟩
    rintro e w' ⟨rfl, ⟨j, hq, rfl⟩ | ⟨h', rfl⟩⟩
    · obtain rfl := hq.uniq (vd_nn hv) hp
      exact ⟨rfl, rfl⟩
    · exact absurd h' h
end Go.Proofs.Ytdejdnkkbpmmlaa
