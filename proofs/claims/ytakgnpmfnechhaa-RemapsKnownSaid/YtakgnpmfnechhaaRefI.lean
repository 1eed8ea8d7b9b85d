/- The walks of the reference's Same, Insert. -/
import Derived.Test.YtakgnpmfnechhaaBase
namespace Go.Proofs.Ytakgnpmfnechhaa
open Go.RowKit

theorem SlI.rest {w : World} {A : Option Addr} {c : Nat} {l : List Int} (h : SlI w A c l) (i : Nat) (hi : i ≤ l.length) : SlI w (if c = i then A else A.map fun x => x.add i) (c - i) (l.drop i) := by
  refine ⟨fun k hk => ?_, by have := h.le; rw [List.length_drop]; omega, by have := h.max; omega, fun hA => ?_⟩
  · rw [List.length_drop] at hk
    obtain ⟨b, o, e, hb, hc⟩ := h.rd (i + k) (by omega)
    have hne : c ≠ i := by have := h.le; omega
    refine ⟨b, o + i, ?_, hb, ?_⟩
    · rw [if_neg hne, e, Option.map_some, add_plain]
    · rw [List.getElem_drop, ← hc, Nat.add_assoc]
  · by_cases hc : c = i
    · omega
    · rw [if_neg hc] at hA
      cases A with
      | none => have := h.nil rfl; omega
      | some a => cases hA
/-- the block of a row holds ints -/
def Kd (w : World) (A : Option Addr) : Prop := ∀ p, A = some p → ∃ cs fz, w.heap[p.block]? = some (.cells cs 3 fz)
theorem kd_none (w : World) : Kd w none := fun p h => by cases h
theorem Kd.next {w w' : World} {A : Option Addr} (h : Kd w A) (hb : Below w.heap.size w w') : Kd w' A := fun p e => by
  obtain ⟨cs, fz, h⟩ := h p e
  exact ⟨cs, fz, keep_heap hb h⟩
theorem own_kd {W : World} {base n c : Nat} {A : Option Addr} {l : List Int} (h : OwnI W base (.slice A n c) l) : Kd W A := fun p e => by
  subst e
  rcases h.2 with ⟨hv, _⟩ | ⟨g', cap, cur, hv, hb, hh, _⟩
  · injection hv with e1
    cases e1
  · injection hv with e1
    injection e1 with e1
    subst e1
    exact ⟨cur, _, hh⟩
/-- what the reference hands back: a row -/
def RowK (l : List Int) (w : World) (e : Ending) (w' : World) : Prop := ∃ A c, e = .returned (.slice A l.length c) ∧ SlI w' A c l ∧ Kd w' A ∧ Below w.heap.size w w'
theorem rowK_own {l : List Int} {w W : World} {base : Nat} {v : Value} (h : OwnI W base v l) (hb : Below w.heap.size w W) : RowK l w (.returned v) W := by
  obtain ⟨A, c, rfl, hs⟩ := h.sl
  exact ⟨A, c, rfl, hs, own_kd h, hb⟩
/-- what the reference hands back: a row and a number -/
def RowE (r : List Int × Int) (w : World) (e : Ending) (w' : World) : Prop := ∃ A c, e = .returned (.tuple #[.slice A r.1.length c, .int .i64 r.2]) ∧ SlI w' A c r.1 ∧ Kd w' A ∧ Below w.heap.size w w'
theorem rowE_own {l : List Int} {w W : World} {base : Nat} {v : Value} (h : OwnI W base v l) (hb : Below w.heap.size w W) : RowE (l, 0) w (.returned (.tuple #[v, .int .i64 0])) W := by
  obtain ⟨A, c, rfl, hs⟩ := h.sl
  exact ⟨A, c, rfl, hs, own_kd h, hb⟩
theorem rowE_err {f : Int} {w W : World} (hb : Below w.heap.size w W) : RowE ([], f) w (.returned (.tuple #[.slice none 0 0, .int .i64 f])) W := ⟨none, 0, rfl, SlI.none W, kd_none W, hb⟩
def insR (l : List Int) (a m : Int) : List Int × Int := if a < 0 ∨ (l.length : Int) < a ∨ m < 0 then ([], 4) else if 4096 - (l.length : Int) < m then ([], 3) else (insL l a.toNat m.toNat, 0)
set_option maxHeartbeats 2000000 in
theorem refSame_any (n : Nat) (hn : n ≤ 4096) (w : World) : Calls Try.prog 25 #[.int .i64 n] w (RowK (idL n) w) := by
  have H0 : Hid (OwnI w w.heap.size (.slice none 0 0) (idL 0) ∧ Below w.heap.size w w) := Lib.hid ⟨own_nil w _, Below.refl _ _⟩
  go_enter Try.func25, Try.ntmps25
  go_wp2_with fail
  go_loopw [3, 4] (fun x k wr => ∃ j : Nat, j ≤ n ∧ k = .int .i64 j ∧ Hid (OwnI wr w.heap.size x (idL j) ∧ Below w.heap.size w wr)) (fun _ k _ => n - (intOf k).toNat)
  case atStart => exact ⟨0, Nat.zero_le _, rfl, H0⟩
  case round =>
    obtain ⟨j, hj, rfl, HI⟩ := hrel
    clear H0
    by_cases hlt : j < n
    · have hln := idL_len j
      have HS := Lib.hid (show idL (j + 1) = idL j ++ [(j : Int)] from mk_succ _ _)
      have HO := Lib.hid (HI.out.1.next (below_new wr (.cells #[.int .i64 j] 3)))
      have HX := Lib.hid (sl_one wr j)
      have HB2 := Lib.hid (HI.out.2.trans ((below_new wr (.cells #[.int .i64 j] 3)).mono HI.out.2.size))
      generalize idL j = x at *
      go_wp2_with (
        at_builtin
        refine wp_app rfl (.tmp 10) (.tmp 12) rfl w.heap.size _ x rfl _ 1 [(j : Int)] 1 rfl rfl HO.out HX.out (by simp; omega) HB2.out.size ?_
        intro v2 w2 H2 B2 G2)
      go_roundw
      case rel => exact ⟨j + 1, by omega, by go_num, Lib.hid ⟨by rw [HS.out]; exact H2.out, HB2.out.trans B2.out⟩⟩
      case measure => first | (simp [intOf]; done) | (simp [intOf]; omega)
    · obtain rfl : j = n := by omega
      go_wp2_with fail
      go_ret
      exact rowK_own HI.out.1 HI.out.2
theorem rep_succ (l : List Int) (k : Nat) : (l ++ List.replicate k (-1)) ++ [-1] = l ++ List.replicate (k + 1) (-1) := by
  rw [List.append_assoc, List.replicate_succ']
set_option maxHeartbeats 2000000 in
theorem refIns_ok {w : World} {A : Option Addr} {c : Nat} {l : List Int} (h : SlI w A c l) (i n : Nat) (hi : i ≤ l.length) (hn : n + l.length ≤ 4096) :
    Calls Try.prog 26 #[.slice A l.length c, .int .i64 i, .int .i64 n] w (RowE (insL l i n, 0) w) := by
  have hle := h.le
  have h3 : (i : Int) ≤ (c : Int) := by omega
  have HO := Lib.hid (own_made0 w)
  have HB : Hid (Below w.heap.size w (w.alloc (.cells #[] 3))) := Lib.hid (below_new w _)
  have HS := Lib.hid h
  have HS0 := Lib.hid ((h.next HB.out).head i)
  have hti : (l.take i).length = i := by rw [List.length_take]; omega
  clear h
  go_enter Try.func26, Try.ntmps26
  go_wp2_with (
    at_builtin
    refine wp_app rfl (.tmp 27) (.tmp 30) rfl w.heap.size _ [] rfl A c (l.take i) i rfl hti.symm HO.out HS0.out (by simp; omega) (by simp) ?_
    intro v1 w1 H1 B1 G1)
  have H1' : Hid (OwnI w1 w.heap.size v1 (l.take i ++ List.replicate 0 (-1)) ∧ Below w.heap.size w w1) := Lib.hid ⟨by have := H1.out; simpa using this, HB.out.trans B1.out⟩
  clear H1 B1 G1 HS0 HO HB
  go_loopw [8, 9] (fun x k wr => ∃ (j : Nat), j ≤ n ∧ k = .int .i64 j ∧ Hid (OwnI wr w.heap.size x (l.take i ++ List.replicate j (-1)) ∧ Below w.heap.size w wr)) (fun _ k _ => n - (intOf k).toNat)
  case atStart => exact ⟨0, Nat.zero_le _, rfl, H1'⟩
  case round =>
    obtain ⟨j, hj, rfl, HI⟩ := hrel
    clear H1'
    have hsz := HI.out.2.size
    have hln : (l.take i ++ List.replicate j (-1)).length = i + j := by rw [List.length_append, hti, List.length_replicate]
    by_cases hlt : j < n
    · have HS := Lib.hid (rep_succ (l.take i) j)
      generalize l.take i ++ List.replicate j (-1) = x at *
      have HX := Lib.hid (sl_one wr (-1))
      have HY := Lib.hid (HI.out.1.next (below_new wr (.cells #[.int .i64 (-1)] 3)))
      have HB2 := Lib.hid (HI.out.2.trans ((below_new wr (.cells #[.int .i64 (-1)] 3)).mono hsz))
      go_wp2_with (
        at_builtin
        refine wp_app rfl (.tmp 37) (.tmp 38) rfl w.heap.size _ x rfl _ 1 [-1] 1 rfl rfl HY.out HX.out (by simp; omega) HB2.out.size ?_
        intro v2 w2 H2 B2 G2)
      go_roundw
      case rel => exact ⟨j + 1, by omega, by go_num, Lib.hid ⟨by rw [← HS.out]; exact H2.out, HB2.out.trans B2.out⟩⟩
      case measure => first | (simp [intOf]; done) | (simp [intOf]; omega)
    · obtain rfl : j = n := by omega
      have HP := Lib.hid ((HS.out.next (HI.out.2)).rest i hi)
      obtain ⟨A2, hA2⟩ : ∃ A2, (if c = i then A else A.map fun x => x.add i) = A2 := ⟨_, rfl⟩
      rw [hA2] at HP
      have hdl : (l.drop i).length = l.length - i := List.length_drop
      go_wp2_with (
        at_builtin
        refine wp_app rfl (.tmp 40) (.tmp 43) rfl w.heap.size _ _ rfl A2 (c - i) (l.drop i) (l.length - i) rfl hdl.symm HI.out.1 HP.out (by omega) hsz ?_
        intro v3 w3 H3 B3 G3)
      go_ret2
      exact rowE_own (by have := H3.out; rwa [List.append_assoc] at this) (HI.out.2.trans B3.out)
set_option maxHeartbeats 2000000 in
theorem refIns_any {w : World} {A : Option Addr} {c : Nat} {l : List Int} (h : SlI w A c l) (a m : Int) (hl : l.length ≤ 4096) (ha : I64 a) (hm : I64 m) :
    Calls Try.prog 26 #[.slice A l.length c, .int .i64 a, .int .i64 m] w (RowE (insR l a m) w) := by
  obtain ⟨ha1, ha2⟩ := ha
  obtain ⟨hm1, hm2⟩ := hm
  unfold insR
  by_cases h1 : a < 0
  · rw [if_pos (.inl h1)]
    clear h
    go_enter Try.func26, Try.ntmps26
    go_wp2_with fail
    go_ret2
    exact rowE_err (Below.refl _ _)
  by_cases h2 : (l.length : Int) < a
  · rw [if_pos (.inr (.inl h2))]
    clear h
    go_enter Try.func26, Try.ntmps26
    go_wp2_with fail
    go_ret2
    exact rowE_err (Below.refl _ _)
  by_cases h3 : m < 0
  · rw [if_pos (.inr (.inr h3))]
    clear h
    go_enter Try.func26, Try.ntmps26
    go_wp2_with fail
    go_ret2
    exact rowE_err (Below.refl _ _)
  rw [if_neg (by omega)]
  by_cases h4 : 4096 - (l.length : Int) < m
  · rw [if_pos h4]
    clear h
    go_enter Try.func26, Try.ntmps26
    go_wp2_with fail
    go_ret2
    exact rowE_err (Below.refl _ _)
  rw [if_neg h4]
  obtain ⟨i, rfl⟩ : ∃ i : Nat, a = i := ⟨a.toNat, by omega⟩
  obtain ⟨n, rfl⟩ : ∃ i : Nat, m = i := ⟨m.toNat, by omega⟩
  rw [Int.toNat_natCast, Int.toNat_natCast]
  exact refIns_ok h i n (by omega) (by omega)
end Go.Proofs.Ytakgnpmfnechhaa
