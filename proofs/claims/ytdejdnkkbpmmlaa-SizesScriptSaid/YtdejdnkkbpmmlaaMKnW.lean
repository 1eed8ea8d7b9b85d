/- Known, Unknown. -/
import Derived.Test.YtdejdnkkbpmmlaaMIxW
namespace Go.Proofs.Ytdejdnkkbpmmlaa
open Go.RowKit

theorem hasB_ex {xs : List S.Sp} {i : Int} : S.hasB xs i = true ↔ ∃ (k : Nat) (h : k < xs.length), xs[k].1 ≤ i ∧ i < xs[k].2 := by
  induction xs with
  | nil => simp [S.hasB]
  | cons s r ih =>
    rw [S.hasB_cons, Bool.or_eq_true, decide_eq_true_iff, ih]
    constructor
    · rintro (h | ⟨k, hk, h⟩)
      · exact ⟨0, by simp, h⟩
      · exact ⟨k + 1, by simpa using hk, by simpa using h⟩
    · rintro ⟨k, hk, h⟩
      cases k with
      | zero => exact .inl h
      | succ k => exact .inr ⟨k, by simpa using hk, by simpa using h⟩
theorem val_at {l : Int} {xs : List S.Sp} (h : S.Val l xs) : ∀ (k : Nat) (hk : k < xs.length), l < xs[k].1 ∧ xs[k].1 < xs[k].2 ∧ xs[k].2 ≤ 1073741824 := by
  induction xs generalizing l with
  | nil => intro k hk; simp at hk
  | cons s r ih =>
    obtain ⟨h1, h2, h3, h4⟩ := h
    intro k hk
    cases k with
    | zero => exact ⟨h1, h2, h3⟩
    | succ k =>
      have := ih h4 k (by simpa using hk)
      simp only [List.getElem_cons_succ]
      omega
theorem val_mono {l : Int} {xs : List S.Sp} (h : S.Val l xs) : ∀ (j k : Nat) (hk : k < xs.length) (hj : j < k), (xs[j]'(by omega)).2 < xs[k].1 := by
  induction xs generalizing l with
  | nil => intro j k hk; simp at hk
  | cons s r ih =>
    obtain ⟨h1, h2, h3, h4⟩ := h
    intro j k hk hj
    cases k with
    | zero => omega
    | succ k =>
      have hk' : k < r.length := by simpa using hk
      cases j with
      | zero => exact (val_at h4 k hk').1
      | succ j => simpa using ih h4 j k hk' (by omega)
/-- how a span stands to a row -/
def cmpS (s : S.Sp) (i : Int) : Int := if s.2 ≤ i then -1 else if i < s.1 then 1 else 0
set_option maxRecDepth 100000 in
set_option maxHeartbeats 1000000 in
theorem cmp_any (p q i : Int) (w : World) : Calls Try.prog 48 #[.agg #[.int .i64 p, .int .i64 q], .int .i64 i] w fun e w' => e = .returned (.int .i64 (cmpS (p, q) i)) ∧ Below w.heap.size w w' := by
  have hb := Lib.hid (below_new w (.cells #[.int .i64 p, .int .i64 q] 72))
  by_cases h1 : q ≤ i
  · have hc : Hid (cmpS (p, q) i = -1) := Lib.hid (if_pos h1)
    go_enter Try.func48, Try.ntmps48
    go_wp2_with fail
    go_ret
    exact ⟨S.ret_int hc.out.symm, hb.out⟩
  · by_cases h2 : i < p
    · have hc : Hid (cmpS (p, q) i = 1) := Lib.hid (by unfold cmpS; rw [if_neg h1, if_pos h2])
      go_enter Try.func48, Try.ntmps48
      go_wp2_with fail
      go_ret
      exact ⟨S.ret_int hc.out.symm, hb.out⟩
    · have hc : Hid (cmpS (p, q) i = 0) := Lib.hid (by unfold cmpS; rw [if_neg h1, if_neg h2])
      go_enter Try.func48, Try.ntmps48
      go_wp2_with fail
      go_ret
      exact ⟨S.ret_int hc.out.symm, hb.out⟩
/-- so far: all spans ahead of lo end ahead of the row, all from hi on behind it -/
structure Bs (xs : List S.Sp) (i : Int) (lo hi : Nat) : Prop where
  le : lo ≤ hi
  hn : hi ≤ xs.length
  a : ∀ (j : Nat) (h : j < xs.length), j < lo → xs[j].2 ≤ i
  b : ∀ (j : Nat) (h : j < xs.length), hi ≤ j → i < xs[j].2
theorem Bs.start (xs : List S.Sp) (i : Int) : Bs xs i 0 xs.length := ⟨Nat.zero_le _, Nat.le_refl _, fun _ _ h => absurd h (by omega), fun j h h2 => absurd h (by omega)⟩
theorem Bs.up {xs : List S.Sp} {i : Int} {lo hi m : Nat} (h : Bs xs i lo hi) (hv : S.Val (-1) xs) (h1 : lo ≤ m) (h2 : m < hi) (hm : m < xs.length) (h3 : xs[m].2 ≤ i) : Bs xs i (m + 1) hi :=
  ⟨h2, h.hn, fun j hj hlt => by
    rcases Nat.lt_or_ge j m with h5 | h5
    · have := val_mono hv j m hm h5
      have := (val_at hv m hm).2.1
      omega
    · obtain rfl : j = m := by omega
      exact h3, h.b⟩
theorem Bs.down {xs : List S.Sp} {i : Int} {lo hi m : Nat} (h : Bs xs i lo hi) (hv : S.Val (-1) xs) (h1 : lo ≤ m) (h2 : m < hi) (hm : m < xs.length) (h3 : i < xs[m].2) : Bs xs i lo m :=
  ⟨h1, by omega, h.a, fun j hj hge => by
    rcases Nat.lt_or_ge m j with h5 | h5
    · have := val_mono hv m j hj h5
      have := (val_at hv j hj).2.1
      omega
    · obtain rfl : j = m := by omega
      exact h3⟩
theorem Bs.found {xs : List S.Sp} {i : Int} {lo : Nat} (h : Bs xs i lo lo) (hl : lo < xs.length) (hc : cmpS xs[lo] i = 0) : xs[lo].1 ≤ i ∧ i < xs[lo].2 := by
  have := h.b lo hl (Nat.le_refl _)
  unfold cmpS at hc
  rw [if_neg (by omega)] at hc
  split at hc
  · cases hc
  · omega
theorem Bs.lost {xs : List S.Sp} {i : Int} {lo : Nat} (h : Bs xs i lo lo) (hv : S.Val (-1) xs) (hc : ∀ hl : lo < xs.length, cmpS xs[lo] i ≠ 0) : S.hasB xs i = false := by
  rw [Bool.eq_false_iff]
  intro ht
  obtain ⟨k, hk, h1, h2⟩ := hasB_ex.1 ht
  rcases Nat.lt_or_ge k lo with h5 | h5
  · have := h.a k hk h5
    omega
  · have hl : lo < xs.length := by omega
    have h6 := h.b lo hl (Nat.le_refl _)
    refine hc hl ?_
    unfold cmpS
    rw [if_neg (by omega), if_neg]
    rcases Nat.lt_or_ge lo k with h7 | h7
    · have := val_mono hv lo k hk h7
      have := (val_at hv lo hl).2.1
      omega
    · obtain rfl : k = lo := by omega
      omega
/-- what the search hands back -/
def BsR (xs : List S.Sp) (i : Int) (w : World) (e : Ending) (w' : World) : Prop :=
  ∃ k : Nat, e = .returned (.tuple #[.int .i64 k, .bool (S.hasB xs i)]) ∧ (S.hasB xs i = true → ∃ h : k < xs.length, xs[k].1 ≤ i ∧ i < xs[k].2) ∧ Below w.heap.size w w'
set_option maxRecDepth 100000 in
set_option maxHeartbeats 4000000 in
theorem bs_any (A : Option Addr) (c : Nat) (xs : List S.Sp) (i : Int) (w : World) (hr : S.Rd w w.heap.size A xs) (hv : S.Val (-1) xs) (hl : xs.length ≤ 2000000) :
    Calls Try.prog 47 #[.slice A xs.length c, .int .i64 i, .func (.func 48) #[] #[]] w (BsR xs i w) := by
  have HR := Lib.hid hr
  have HV := Lib.hid hv
  have HB0 : Hid (Below w.heap.size w w) := Lib.hid (Below.refl _ _)
  clear hr hv
  go_enter Try.func47, Try.ntmps47
  go_wp2_with fail
  go_loopw [9, 10, 11] (fun a b _ wr => ∃ lo hi : Nat, a = .int .i64 lo ∧ b = .int .i64 hi ∧ Bs xs i lo hi ∧ Hid (Below w.heap.size w wr)) (fun a b _ _ => (intOf b).toNat - (intOf a).toNat)
  case atStart => exact ⟨0, xs.length, rfl, rfl, Bs.start xs i, HB0⟩
  case round =>
    obtain ⟨lo, hi, rfl, rfl, hs, HB⟩ := hrel
    have h1 := hs.le
    have h2 := hs.hn
    have HS := Lib.hid hs
    clear hs
    by_cases hlt : lo < hi
    · obtain ⟨m, hm1, hm2, hm⟩ : ∃ m : Nat, lo ≤ m ∧ m < hi ∧ m = (lo + hi) / 2 := ⟨(lo + hi) / 2, by omega, by omega, rfl⟩
      have hmx : m < xs.length := by omega
      obtain ⟨b, o, rfl, hb, c0, c1⟩ := HR.out.below HB.out m hmx
      have hup := Lib.hid (fun h => HS.out.up HV.out hm1 hm2 hmx h)
      have hdn := Lib.hid (fun h => HS.out.down HV.out hm1 hm2 hmx h)
      obtain ⟨⟨p, q⟩, hpq⟩ : ∃ s, xs[m] = s := ⟨_, rfl⟩
      rw [hpq] at c0 c1 hup hdn
      simp only at c0 c1 hup hdn
      have hme : ((lo : Int) + (hi : Int)) / 2 = (m : Int) := by omega
      clear hm hpq
      go_upto_region 5 with fail
      try rw [hme]
      clear hme
      by_cases hq : q ≤ i
      · have hc := cmp_any p q i wr
        rw [show cmpS (p, q) i = -1 from if_pos hq] at hc
        have HC := Lib.hid hc
        have HU := Lib.hid (hup.out hq)
        clear hc hup hdn
        go_wp2_with fail
        refine HC.out.mono ?_
        rintro e w1 ⟨rfl, kk⟩
        have HB1 := Lib.hid (HB.out.trans (kk.mono HB.out.size))
        clear kk
        go_wp2_with fail
        go_roundw
        case rel => exact ⟨m + 1, hi, by go_num, rfl, HU.out, HB1⟩
        case measure => simp [intOf]; omega
      · have hc := cmp_any p q i wr
        obtain ⟨v, hv⟩ : ∃ v, cmpS (p, q) i = v := ⟨_, rfl⟩
        have hv0 : 0 ≤ v := by rw [← hv]; unfold cmpS; rw [if_neg hq]; split <;> omega
        rw [hv] at hc
        have HC := Lib.hid hc
        have HU := Lib.hid (hdn.out (by omega))
        clear hc hup hdn hv
        go_wp2_with fail
        refine HC.out.mono ?_
        rintro e w1 ⟨rfl, kk⟩
        have HB1 := Lib.hid (HB.out.trans (kk.mono HB.out.size))
        clear kk
        go_wp2_with fail
        go_roundw
        case rel => exact ⟨lo, m, rfl, rfl, HU.out, HB1⟩
        case measure => simp [intOf]; omega
    · obtain rfl : hi = lo := by omega
      by_cases hn : hi < xs.length
      · obtain ⟨b, o, rfl, hb, c0, c1⟩ := HR.out.below HB.out hi hn
        have hc := cmp_any xs[hi].1 xs[hi].2 i wr
        have hfd := Lib.hid (fun h => HS.out.found hn h)
        have hls := Lib.hid (show cmpS xs[hi] i ≠ 0 → S.hasB xs i = false from fun h => HS.out.lost HV.out (fun _ => h))
        have hx : (xs[hi].1, xs[hi].2) = xs[hi] := rfl
        rw [hx] at hc
        by_cases h0 : cmpS xs[hi] i = 0
        · rw [h0] at hc
          have hh : Hid (S.hasB xs i = true) := Lib.hid (hasB_ex.2 ⟨hi, hn, hfd.out h0⟩)
          have HF := Lib.hid (hfd.out h0)
          have HC := Lib.hid hc
          clear hc hfd hls hx h0
          go_wp2_with fail
          refine HC.out.mono ?_
          rintro e w1 ⟨rfl, kk⟩
          have HB1 := Lib.hid (HB.out.trans (kk.mono HB.out.size))
          clear kk
          go_wp2_with fail
          go_ret2
          exact ⟨hi, by rw [hh.out]; rfl, fun _ => ⟨hn, HF.out⟩, HB1.out⟩
        · have hh : Hid (S.hasB xs i = false) := Lib.hid (hls.out h0)
          obtain ⟨v, hv⟩ : ∃ v, cmpS xs[hi] i = v := ⟨_, rfl⟩
          rw [hv] at hc h0
          have e0 : (v == 0) = false := by simpa using h0
          have HC := Lib.hid hc
          clear hc hfd hls hx h0 hv
          go_wp2_with fail
          refine HC.out.mono ?_
          rintro e w1 ⟨rfl, kk⟩
          have HB1 := Lib.hid (HB.out.trans (kk.mono HB.out.size))
          clear kk
          go_wp2_with fail
          go_ret2
          exact ⟨hi, by rw [hh.out]; rfl, (fun h => by rw [hh.out] at h; cases h), HB1.out⟩
      · have hh : Hid (S.hasB xs i = false) := Lib.hid (HS.out.lost HV.out (fun h => absurd h hn))
        have e0 : decide ((hi : Int) < (xs.length : Int)) = false := decide_eq_false (by omega)
        go_wp2_with fail
        go_ret2
        exact ⟨hi, by rw [hh.out]; rfl, (fun h => by rw [hh.out] at h; cases h), HB.out⟩
end Go.Proofs.Ytdejdnkkbpmmlaa

namespace Go.Proofs.Ytdejdnkkbpmmlaa
open Go.RowKit

/-- a span of known rows that a row is in -/
structure InSp (xs : List S.Sp) (i p q : Int) : Prop where
  lo : p ≤ i
  hi : i < q
  all : ∀ j, p ≤ j → j < q → S.hasB xs j = true
  nxt : S.hasB xs q = false
theorem inSp_of {xs : List S.Sp} {i : Int} (hv : S.Val (-1) xs) {k : Nat} (hk : k < xs.length) (h : xs[k].1 ≤ i ∧ i < xs[k].2) : InSp xs i xs[k].1 xs[k].2 := by
  refine ⟨h.1, h.2, fun j h1 h2 => hasB_ex.2 ⟨k, hk, h1, h2⟩, ?_⟩
  rw [Bool.eq_false_iff]
  intro ht
  obtain ⟨m, hm, h1, h2⟩ := hasB_ex.1 ht
  have hvk := val_at hv k hk
  have hvm := val_at hv m hm
  rcases Nat.lt_or_ge m k with h3 | h3
  · have := val_mono hv m k hk h3; omega
  · rcases Nat.lt_or_ge k m with h4 | h4
    · have := val_mono hv k m hm h4; omega
    · obtain rfl : m = k := by omega
      omega
/-- what stretch hands back -/
def StR (xs : List S.Sp) (i : Int) (w : World) (e : Ending) (w' : World) : Prop :=
  ∃ p q : Int, e = .returned (.tuple #[.agg #[.int .i64 p, .int .i64 q], .bool (S.hasB xs i)]) ∧ (S.hasB xs i = true → InSp xs i p q) ∧ Below w.heap.size w w'
theorem Rd.cells {w : World} {B : Nat} {A : Option Addr} {xs : List S.Sp} (h : S.Rd w B A xs) {k : Nat} (hk : k < xs.length) : ∃ b o, A = some ⟨b, o, none⟩ ∧ w.cell? ⟨b, o + k * 2, none⟩ = some (.int .i64 xs[k].1) ∧ w.cell? ⟨b, o + k * 2 + 1, none⟩ = some (.int .i64 xs[k].2) := by
  obtain ⟨b, o, e, _, h1, h2⟩ := h k hk
  exact ⟨b, o, e, h1, h2⟩
theorem bs_below {xs : List S.Sp} {i : Int} {A : Option Addr} {c : Nat} {w : World} (hr : S.Rd w w.heap.size A xs) (hv : S.Val (-1) xs) (hl : xs.length ≤ 2000000) : ∀ W, Below w.heap.size w W →
    Calls Try.prog 47 #[.slice A xs.length c, .int .i64 i, .func (.func 48) #[] #[]] W (BsR xs i W) := fun W kk => bs_any A c xs i W ((hr.below kk).more kk.size) hv hl
set_option maxRecDepth 100000 in
set_option maxHeartbeats 4000000 in
theorem stretch_any {w : World} {t : T} {p A : Option Addr} {c : Nat} {xs : List S.Sp} (hr : S.Rd w w.heap.size A xs) (hv : S.Val (-1) xs) (hl : xs.length ≤ 2000000) (i : Int) :
    Calls Try.prog 33 #[.agg #[.int .i64 t.count, .int .i64 t.total, .int .i64 t.depth, .pointer p, .slice A xs.length c], .int .i64 i] w (StR xs i w) := by
  have hb2 := below_two w (.cells #[.int .i64 t.count, .int .i64 t.total, .int .i64 t.depth, .pointer p, .slice A xs.length c] 32) (.cells #[.int .i64 0, .int .i64 0] 72)
  obtain ⟨q1, q2⟩ := two_heap w (.cells #[.int .i64 t.count, .int .i64 t.total, .int .i64 t.depth, .pointer p, .slice A xs.length c] 32) (.cells #[.int .i64 0, .int .i64 0] 72)
  have H := Lib.hid (bs_below (c := c) (i := i) hr hv hl _ hb2)
  obtain ⟨x0, x1, x2, x3, x4⟩ := box5 q1
  have HB := Lib.hid hb2
  have HR := Lib.hid hr
  have HV := Lib.hid hv
  have Q1 := Lib.hid q1
  have Q2 := Lib.hid q2
  clear hb2 hr hv q1 q2
  go_enter Try.func33, Try.ntmps33
  go_wp2_with fail
  refine H.out.mono ?_
  rintro e w1 ⟨k, rfl, hk, kk⟩
  have HB1 := Lib.hid (HB.out.trans (kk.mono HB.out.size))
  have P1 := Lib.hid (keep_heap kk Q1.out)
  have P2 := Lib.hid (keep_heap kk Q2.out)
  obtain ⟨y0, y1, y2, y3, y4⟩ := box5 P1.out
  have z0 := cell_of_row w1 (w.heap.size + 1) 0 _ 72 (0, 0) P2.out
  have z1 := cell_of_row w1 (w.heap.size + 1) 1 _ 72 (0, 0) P2.out
  have f0 : w1.frozen? ⟨w.heap.size + 1, 0, none⟩ = false := by simp [World.frozen?, P2.out]
  have f1 : w1.frozen? ⟨w.heap.size + 1, 1, none⟩ = false := by simp [World.frozen?, P2.out]
  have HK := Lib.hid hk
  clear kk hk H HB Q1 Q2 x0 x1 x2 x3 x4
  by_cases hh : S.hasB xs i = true
  · obtain ⟨hkl, hin⟩ := HK.out hh
    have HI := Lib.hid (inSp_of HV.out hkl hin)
    obtain ⟨b, o, rfl, c0, c1⟩ := Rd.cells (HR.out.below HB1.out) hkl
    obtain ⟨⟨a1, a2⟩, hpq⟩ : ∃ s, xs[k] = s := ⟨_, rfl⟩
    rw [hpq] at c0 c1 HI
    simp only at c0 c1
    have HH := Lib.hid hh
    rw [hh]
    have HS : Hid (((w1.setCell ⟨w.heap.size + 1, 0, none⟩ (.int .i64 a1)).setCell ⟨w.heap.size + 1, 1, none⟩ (.int .i64 a2)).heap[w.heap.size + 1]? = some (.cells #[.int .i64 a1, .int .i64 a2] 72 (0, 0))) := Lib.hid (by simp [World.setCell, Array.getElem?_modify, P2.out])
    have HB2 : Hid (Below w.heap.size w ((w1.setCell ⟨w.heap.size + 1, 0, none⟩ (.int .i64 a1)).setCell ⟨w.heap.size + 1, 1, none⟩ (.int .i64 a2))) := Lib.hid ((HB1.out.setCell (p := ⟨w.heap.size + 1, 0, none⟩) (Nat.le_succ _) _).setCell (p := ⟨w.heap.size + 1, 1, none⟩) (Nat.le_succ _) _)
    clear hpq hin hh
    go_wp2_with fail
    exact bodyPost_ret (res_sp rfl (g := w.heap.size + 1) rfl HS.out) rfl ⟨a1, a2, by rw [HH.out]; rfl, fun _ => HI.out, HB2.out⟩
  · rw [Bool.not_eq_true] at hh
    have HH := Lib.hid hh
    rw [hh]
    have HS : Hid (((w1.setCell ⟨w.heap.size + 1, 0, none⟩ (.int .i64 0)).setCell ⟨w.heap.size + 1, 1, none⟩ (.int .i64 0)).heap[w.heap.size + 1]? = some (.cells #[.int .i64 0, .int .i64 0] 72 (0, 0))) := Lib.hid (by simp [World.setCell, Array.getElem?_modify, P2.out])
    have HB2 : Hid (Below w.heap.size w ((w1.setCell ⟨w.heap.size + 1, 0, none⟩ (.int .i64 0)).setCell ⟨w.heap.size + 1, 1, none⟩ (.int .i64 0))) := Lib.hid ((HB1.out.setCell (p := ⟨w.heap.size + 1, 0, none⟩) (Nat.le_succ _) _).setCell (p := ⟨w.heap.size + 1, 1, none⟩) (Nat.le_succ _) _)
    clear hh
    go_wp2_with fail
    exact bodyPost_ret (res_sp rfl (g := w.heap.size + 1) rfl HS.out) rfl ⟨0, 0, by rw [HH.out]; rfl, (fun h => by rw [HH.out] at h; cases h), HB2.out⟩
end Go.Proofs.Ytdejdnkkbpmmlaa

namespace Go.Proofs.Ytdejdnkkbpmmlaa
open Go.RowKit

/-- whether a row is known -/
def knownR (r : List (Int × Bool)) (i : Int) : Bool × Int := if i < 0 ∨ (r.length : Int) ≤ i then (false, 4) else (kn r i, 0)
theorem sizeR_err (r : List (Int × Bool)) (i : Int) : (sizeR r i).2 = (knownR r i).2 := by unfold sizeR knownR; split <;> rfl
theorem cells_box {w : World} {t : T} {p A : Option Addr} {c n : Nat} :
    (w.alloc (.cells #[.int .i64 t.count, .int .i64 t.total, .int .i64 t.depth, .pointer p, .slice A n c] 32)).heap[w.heap.size]? = some (.cells #[.int .i64 t.count, .int .i64 t.total, .int .i64 t.depth, .pointer p, .slice A n c] 32 (0, 0)) := heap_alloc_new w _
set_option maxRecDepth 100000 in
set_option maxHeartbeats 4000000 in
theorem known_any {w : World} {r : List (Int × Bool)} {t : T} {p A : Option Addr} {c : Nat} {xs : List S.Sp} (h : Ix w r t p A c xs) (i : Int) (hi : i ≤ 9223372036854775807) :
    Calls Try.prog 15 #[.agg #[.int .i64 t.count, .int .i64 t.total, .int .i64 t.depth, .pointer p, .slice A xs.length c], .int .i64 i] w fun e w' => e = .returned (.tuple #[.bool (knownR r i).1, .int .i64 (knownR r i).2]) ∧ Below w.heap.size w w' := by
  have hb := below_new w (.cells #[.int .i64 t.count, .int .i64 t.total, .int .i64 t.depth, .pointer p, .slice A xs.length c] 32)
  have H1 := h.next hb
  have HS := Lib.hid (size_any H1 i hi)
  obtain ⟨x0, x1, x2, x3, x4⟩ := box5 (cells_box (w := w) (t := t) (p := p) (A := A) (n := xs.length) (c := c))
  have HQ := Lib.hid (cells_box (w := w) (t := t) (p := p) (A := A) (n := xs.length) (c := c))
  have HB := Lib.hid hb
  have HI := Lib.hid H1
  have hl : xs.length ≤ 2000000 := by have := h.set.len; have := h.vr.len; omega
  clear hb H1 h
  go_enter Try.func15, Try.ntmps15
  go_wp2_with fail
  refine HS.out.mono ?_
  rintro e w1 ⟨rfl, kk⟩
  have HB1 := Lib.hid (HB.out.trans (kk.mono HB.out.size))
  have HI1 := Lib.hid (HI.out.next kk)
  obtain ⟨y0, y1, y2, y3, y4⟩ := box5 (keep_heap kk HQ.out)
  clear kk HS HB HI HQ x0 x1 x2 x3 x4
  rw [sizeR_err]
  by_cases hb : i < 0 ∨ (r.length : Int) ≤ i
  · have e0 : Hid (knownR r i = (false, 4)) := Lib.hid (if_pos hb)
    rw [e0.out]
    go_wp2_with fail
    go_ret2
    exact ⟨by rw [e0.out]; rfl, HB1.out⟩
  · have e0 : Hid (knownR r i = (kn r i, 0)) := Lib.hid (if_neg hb)
    rw [e0.out]
    have HT := Lib.hid (stretch_any (t := t) (p := p) (c := c) HI1.out.rd HI1.out.set.val hl i)
    have hh := Lib.hid (HI1.out.set.has i)
    go_wp2_with fail
    refine HT.out.mono ?_
    rintro e w2 ⟨a, b, rfl, _, kk⟩
    have HB2 := Lib.hid (HB1.out.trans (kk.mono HB1.out.size))
    have HB3 := Lib.hid (HB2.out.trans ((below_new w2 (.cells #[.int .i64 a, .int .i64 b] 72)).mono HB2.out.size))
    clear kk HT HI1 HB1
    rw [hh.out]
    go_wp2_with fail
    go_ret2
    exact ⟨by rw [e0.out]; rfl, HB3.out⟩
/-- the first row of a range that is not known -/
def UnkR (r : List (Int × Bool)) (a b : Int) (w : World) (e : Ending) (w' : World) : Prop :=
  ∃ v f : Int, e = .returned (.tuple #[.int .i64 v, .int .i64 f]) ∧ Below w.heap.size w w' ∧
    ((f = 0 ∧ a ≤ v ∧ v < b ∧ kn r v = false ∧ ∀ j, a ≤ j → j < v → kn r j = true) ∨ (f = 11 ∧ v = 0 ∧ ∀ j, a ≤ j → j < b → kn r j = true))
set_option maxRecDepth 100000 in
set_option maxHeartbeats 4000000 in
theorem unk_bad {w : World} {r : List (Int × Bool)} {t : T} {p A : Option Addr} {c : Nat} {xs : List S.Sp} (h : Ix w r t p A c xs) (a b : Int) (hb : a < 0 ∨ b < a ∨ (r.length : Int) < b) :
    Calls Try.prog 18 #[.agg #[.int .i64 t.count, .int .i64 t.total, .int .i64 t.depth, .pointer p, .slice A xs.length c], .int .i64 a, .int .i64 b] w fun e w' => e = .returned (.tuple #[.int .i64 0, .int .i64 4]) ∧ Below w.heap.size w w' := by
  have hcn := h.cnt
  obtain ⟨x0, x1, x2, x3, x4⟩ := box5 (cells_box (w := w) (t := t) (p := p) (A := A) (n := xs.length) (c := c))
  have HB := Lib.hid (below_new w (.cells #[.int .i64 t.count, .int .i64 t.total, .int .i64 t.depth, .pointer p, .slice A xs.length c] 32))
  have h3 : ¬ a < 0 → ¬ b < a → (t.count : Int) < b := fun g1 g2 => by rw [hcn]; omega
  clear h hcn hb
  by_cases h1 : a < 0
  · go_enter Try.func18, Try.ntmps18
    go_wp2_with fail
    go_ret2
    exact ⟨rfl, HB.out⟩
  · have d1 : decide (a < 0) = false := decide_eq_false h1
    by_cases h2 : b < a
    · go_enter Try.func18, Try.ntmps18
      go_wp2_with fail
      go_ret2
      exact ⟨rfl, HB.out⟩
    · have d2 : decide (b < a) = false := decide_eq_false h2
      replace h3 := h3 h1 h2
      have HL := Lib.hid (len_any t.count t.total t.depth p (w.alloc (.cells #[.int .i64 t.count, .int .i64 t.total, .int .i64 t.depth, .pointer p, .slice A xs.length c] 32)))
      go_enter Try.func18, Try.ntmps18
      go_wp2_with fail
      refine HL.out.mono ?_
      rintro e w1 ⟨rfl, rfl⟩
      go_wp2_with fail
      go_ret2
      exact ⟨rfl, HB.out.alloc HB.out.size _⟩
set_option maxRecDepth 100000 in
set_option maxHeartbeats 4000000 in
theorem unk_ok {w : World} {r : List (Int × Bool)} {t : T} {p A : Option Addr} {c : Nat} {xs : List S.Sp} (h : Ix w r t p A c xs) (a b : Int) (ha : 0 ≤ a) (hab : a ≤ b) (hb : b ≤ r.length) :
    Calls Try.prog 18 #[.agg #[.int .i64 t.count, .int .i64 t.total, .int .i64 t.depth, .pointer p, .slice A xs.length c], .int .i64 a, .int .i64 b] w (UnkR r a b w) := by
  have hcn := h.cnt
  have hb0 := below_new w (.cells #[.int .i64 t.count, .int .i64 t.total, .int .i64 t.depth, .pointer p, .slice A xs.length c] 32)
  obtain ⟨x0, x1, x2, x3, x4⟩ := box5 (cells_box (w := w) (t := t) (p := p) (A := A) (n := xs.length) (c := c))
  have HQ := Lib.hid (cells_box (w := w) (t := t) (p := p) (A := A) (n := xs.length) (c := c))
  have HB := Lib.hid hb0
  have HI := Lib.hid (h.next hb0)
  have hl : xs.length ≤ 2000000 := by have := h.set.len; have := h.vr.len; omega
  have d1 : decide (a < 0) = false := decide_eq_false (by omega)
  have d2 : decide (b < a) = false := decide_eq_false (by omega)
  have d3 : decide ((t.count : Int) < b) = false := decide_eq_false (by rw [hcn]; omega)
  have HL := Lib.hid (len_any t.count t.total t.depth p (w.alloc (.cells #[.int .i64 t.count, .int .i64 t.total, .int .i64 t.depth, .pointer p, .slice A xs.length c] 32)))
  clear h hb0 hcn hb
  go_enter Try.func18, Try.ntmps18
  go_wp2_with fail
  refine HL.out.mono ?_
  rintro e w1 ⟨rfl, hw1⟩
  have kk : Below (w.alloc (.cells #[.int .i64 t.count, .int .i64 t.total, .int .i64 t.depth, .pointer p, .slice A xs.length c] 32)).heap.size (w.alloc (.cells #[.int .i64 t.count, .int .i64 t.total, .int .i64 t.depth, .pointer p, .slice A xs.length c] 32)) w1 := hw1 ▸ below_new _ _
  have HB1 := Lib.hid (HB.out.trans (kk.mono HB.out.size))
  have HI1 := Lib.hid (HI.out.next kk)
  obtain ⟨y0, y1, y2, y3, y4⟩ := box5 (keep_heap kk HQ.out)
  clear kk hw1 HL HB HI HQ x0 x1 x2 x3 x4
  have HT := Lib.hid (stretch_any (t := t) (p := p) (c := c) HI1.out.rd HI1.out.set.val hl a)
  go_wp2_with fail
  refine HT.out.mono ?_
  rintro e w2 ⟨u, v, rfl, hin, kk⟩
  have HB2 := Lib.hid (HB1.out.trans (kk.mono HB1.out.size))
  have HB3 := Lib.hid (HB2.out.trans ((below_new w2 (.cells #[.int .i64 u, .int .i64 v] 72)).mono HB2.out.size))
  have HSET := Lib.hid HI1.out.set
  have HIN := Lib.hid hin
  clear kk hin HT HI1 HB1
  by_cases hh : S.hasB xs a = true
  · have hin := HIN.out hh
    have h1 := hin.lo
    have h2 := hin.hi
    have HA := Lib.hid (show ∀ j, a ≤ j → j < v → kn r j = true from fun j g1 g2 => by rw [← HSET.out.has]; exact hin.all j (by omega) g2)
    have HN := Lib.hid (show kn r v = false by rw [← HSET.out.has]; exact hin.nxt)
    rw [hh]
    clear hin hh HIN
    by_cases hv : b ≤ v
    · go_wp2_with fail
      go_ret2
      exact ⟨0, 11, rfl, HB3.out, .inr ⟨rfl, rfl, fun j g1 g2 => HA.out j g1 (by omega)⟩⟩
    · have d4 : decide (b ≤ v) = false := decide_eq_false hv
      go_wp2_with fail
      go_ret2
      exact ⟨v, 0, rfl, HB3.out, .inl ⟨rfl, by omega, by omega, HN.out, HA.out⟩⟩
  · rw [Bool.not_eq_true] at hh
    have HN := Lib.hid (show kn r a = false by rw [← HSET.out.has]; exact hh)
    rw [hh]
    clear hh HIN
    by_cases hv : b ≤ a
    · go_wp2_with fail
      go_ret2
      exact ⟨0, 11, rfl, HB3.out, .inr ⟨rfl, rfl, fun j g1 g2 => by omega⟩⟩
    · have d4 : decide (b ≤ a) = false := decide_eq_false hv
      go_wp2_with fail
      go_ret2
      exact ⟨a, 0, rfl, HB3.out, .inl ⟨rfl, by omega, by omega, HN.out, fun j g1 g2 => by omega⟩⟩
end Go.Proofs.Ytdejdnkkbpmmlaa
