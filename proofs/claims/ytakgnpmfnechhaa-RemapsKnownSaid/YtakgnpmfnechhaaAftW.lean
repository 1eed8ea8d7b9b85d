/- The walk of M's after. -/
import Derived.Test.YtakgnpmfnechhaaRefM
namespace Go.Proofs.Ytakgnpmfnechhaa
open Go.RowKit

/-- steps that are read: four bytes each -/
def RdQ (w : World) (B : Nat) (A : Option Addr) (ss : List St) : Prop :=
  ∀ k (h : k < ss.length), ∃ b o, A = some ⟨b, o, none⟩ ∧ b < B ∧ w.cell? ⟨b, o + k * 4, none⟩ = some (.int .u8 (ss[k].k : Nat)) ∧ w.cell? ⟨b, o + k * 4 + 1, none⟩ = some (.int .u8 (ss[k].a : Nat)) ∧
    w.cell? ⟨b, o + k * 4 + 2, none⟩ = some (.int .u8 (ss[k].m : Nat)) ∧ w.cell? ⟨b, o + k * 4 + 3, none⟩ = some (.int .u8 (ss[k].t : Nat)) ∧ ss[k].k ≤ 255 ∧ ss[k].a ≤ 255 ∧ ss[k].m ≤ 255 ∧ ss[k].t ≤ 255
theorem RdQ.below {w w' : World} {B : Nat} {A : Option Addr} {ss : List St} (h : RdQ w B A ss) (hb : Below B w w') : RdQ w' B A ss := fun k hl => by
  obtain ⟨b, o, e, hl2, h0, h1, h2, h3, r⟩ := h k hl
  exact ⟨b, o, e, hl2, (hb.cell (p := ⟨b, o + k * 4, none⟩) hl2).trans h0, (hb.cell (p := ⟨b, o + k * 4 + 1, none⟩) hl2).trans h1, (hb.cell (p := ⟨b, o + k * 4 + 2, none⟩) hl2).trans h2, (hb.cell (p := ⟨b, o + k * 4 + 3, none⟩) hl2).trans h3, r⟩
theorem RdQ.more {w : World} {B B' : Nat} {A : Option Addr} {ss : List St} (h : RdQ w B A ss) (hB : B ≤ B') : RdQ w B' A ss := fun k hl => by
  obtain ⟨b, o, e, hl2, r⟩ := h k hl
  exact ⟨b, o, e, by omega, r⟩
theorem RdQ.next {w w' : World} {A : Option Addr} {ss : List St} (h : RdQ w w.heap.size A ss) (hb : Below w.heap.size w w') : RdQ w' w'.heap.size A ss := (h.below hb).more hb.size
/-- what after has in memory -/
structure AfI (w wr : World) (N : Nat) (A : Option Addr) (n c : Nat) (B : Option Addr) (d : Nat) (cur : List Int) : Prop where
  box : wr.heap[w.heap.size]? = some (.cells #[.int .u8 N, .slice A n c] 54 (0, 0))
  sl : SlI wr B d cur
  kd : Kd wr B
  u : Below w.heap.size w wr
theorem AfI.next {w wr w' : World} {N : Nat} {A B B' : Option Addr} {n c d d' : Nat} {cur cur' : List Int} (h : AfI w wr N A n c B d cur) (hb : Below wr.heap.size wr w') (hs : SlI w' B' d' cur') (hk : Kd w' B') : AfI w w' N A n c B' d' cur' :=
  ⟨keep_heap hb h.box, hs, hk, h.u.trans (hb.mono h.u.size)⟩
theorem take_aft {l : List Int} {ss : List St} {i : Nat} (h : i < ss.length) : aftL l (ss.take (i + 1)) = stepL (aftL l (ss.take i)) ss[i] := by
  rw [List.take_succ_eq_append_getElem h, aftL_snoc]
set_option maxRecDepth 100000 in
set_option maxHeartbeats 8000000 in
theorem after_any {w : World} {A B : Option Addr} {c d : Nat} {ss : List St} {l : List Int} (N : Nat) (hs : RdQ w w.heap.size A ss) (_hc : ss.length ≤ c) (_hcm : c ≤ 9223372036854775807) (h : SlI w B d l) (hk : Kd w B) (hl : l.length ≤ 4000) :
    Calls Try.prog 31 #[.agg #[.int .u8 N, .slice A ss.length c], .slice B l.length d] w (RowK (aft l ss) w) := by
  have HS := Lib.hid hs
  have hbn := below_new w (.cells #[.int .u8 N, .slice A ss.length c] 54)
  have H0 : Hid (AfI w (w.alloc (.cells #[.int .u8 N, .slice A ss.length c] 54)) N A ss.length c B d l) := Lib.hid ⟨heap_alloc_new w _, h.next hbn, hk.next hbn, hbn⟩
  clear hs h hbn hk
  go_enter Try.func31, Try.ntmps31
  go_wp2_with fail
  go_loopw [1, 5] (fun x v wr => ∃ (i : Nat) (cur : List Int) (B' : Option Addr) (d' : Nat), i ≤ 12 ∧ i ≤ ss.length ∧ v = .int .i64 i ∧ x = .slice B' cur.length d' ∧ cur.length ≤ l.length + 5 * i ∧ Hid (cur = aftL l (ss.take i)) ∧ Hid (AfI w wr N A ss.length c B' d' cur)) (fun _ v _ => 12 - (intOf v).toNat)
  case atStart => exact ⟨0, l, B, d, by omega, Nat.zero_le _, rfl, rfl, by omega, Lib.hid rfl, H0⟩
  case round =>
    obtain ⟨i, cur, B', d', hi, his, rfl, rfl, hcl, HC, HI⟩ := hrel
    clear H0
    have b1 : wr.cell? ⟨w.heap.size, 1, none⟩ = some (.slice A ss.length c) := cell_of_row _ _ 1 _ 54 (0, 0) HI.out.box
    by_cases h1 : i < ss.length
    · have h1' : (i : Int) < (ss.length : Int) := by omega
      by_cases h2 : i < 12
      · have h2' : (i : Int) < 12 := by omega
        obtain ⟨b, o, rfl, hb, k0, k1, k2, k3, r0, r1, r2, r3⟩ := HS.out.below HI.out.u i h1
        have HT := Lib.hid (take_aft (l := l) h1)
        have hsl := @stepL_len cur ss[i]
        obtain ⟨s, hs⟩ : ∃ s, ss[i] = s := ⟨_, rfl⟩
        rw [hs] at k0 k1 k2 k3 r0 r1 r2 r3 HT hsl
        obtain ⟨a, ha⟩ : ∃ a : Nat, s.a % (cur.length + 1) = a := ⟨_, rfl⟩
        obtain ⟨m0, hm0⟩ : ∃ m : Nat, s.m % 6 = m := ⟨_, rfl⟩
        obtain ⟨r, hr⟩ : ∃ r : Nat, s.k % 3 = r := ⟨_, rfl⟩
        obtain ⟨m, hm⟩ : ∃ m : Nat, manyN cur s = m := ⟨_, rfl⟩
        obtain ⟨q, hq⟩ : ∃ q : Nat, min m cur.length = q := ⟨_, rfl⟩
        obtain ⟨t, ht⟩ : ∃ t : Nat, toN cur s = t := ⟨_, rfl⟩
        have ea : (s.a : Int) % ((cur.length : Int) + 1) = (a : Int) := by rw [← ha, Int.natCast_emod]; simp
        have em : (s.m : Int) % 6 = (m0 : Int) := by omega
        have er : (s.k : Int) % 3 = (r : Int) := by omega
        have eq : (if cur.length < m then (cur.length : Int) else (m : Int)) = (q : Int) := by split <;> omega
        have hql : q ≤ cur.length := by omega
        have et : (s.t : Int) % ((cur.length : Int) - (q : Int) + 1) = (t : Int) := by
          rw [← ht]
          unfold toN
          rw [hm, hq, Int.natCast_emod]
          congr 1
          omega
        have hal : a ≤ cur.length := by rw [← ha]; have := Nat.mod_lt s.a (show 0 < cur.length + 1 by omega); omega
        have hr3 : r < 3 := by omega
        have hm5 : m ≤ 5 := by rw [← hm]; exact many_5
        have htl : t ≤ cur.length - q := by
          rw [← ht]
          unfold toN
          rw [hm, hq]
          have := Nat.mod_lt s.t (show 0 < cur.length - q + 1 by omega)
          omega
        have hclen := HI.out.sl.le
        have hdm := HI.out.sl.max
        clear hs
        have HST : Hid (stepL cur s = if r = 0 then insL cur a m else if r = 1 then remL cur a m else movL cur a m t) := Lib.hid (by unfold stepL; rw [hr, ha, hm, ht])
        have hbn := below_new wr (.cells #[.int .u8 (s.k : Nat), .int .u8 (s.a : Nat), .int .u8 (s.m : Nat), .int .u8 (s.t : Nat)] 70)
        have HB := Lib.hid hbn
        have hsl2 := HI.out.sl.next hbn
        rcases (show r = 0 ∨ r = 1 ∨ r = 2 by omega) with rfl | rfl | rfl
        · have hmm : m = m0 := by rw [← hm]; unfold manyN; rw [if_pos hr]; exact hm0
          subst hmm
          have HST2 : Hid (stepL cur s = insL cur a m) := HST
          have K := Lib.hid (refIns_ok hsl2 a m hal (by omega))
          clear HST hm ht ha hq hm0 hr hbn hsl2 htl hql hr3
          go_wp2_with fail
          refine K.out.mono ?_
          rintro e w2 ⟨B2, d2, rfl, hs2, hk2, hb2⟩
          have HN := Lib.hid (HI.out.next (HB.out.trans (hb2.mono HB.out.size)) hs2 hk2)
          have HC2 : Hid (insL cur a m = aftL l (ss.take (i + 1))) := Lib.hid (by rw [HT.out, ← HC.out, HST2.out])
          have hl2 : (insL cur a m).length ≤ l.length + 5 * (i + 1) := by rw [← HST2.out]; omega
          clear K hs2 hk2 hb2 HST2
          generalize insL cur a m = nx at *
          go_wp2_with fail
          go_roundw
          case rel => exact ⟨i + 1, nx, B2, d2, by omega, by omega, by go_num, rfl, hl2, HC2, HN⟩
          case measure => first | (simp [intOf]; done) | (simp [intOf]; omega)
        · have hmm : m = min m0 (cur.length - a) := by rw [← hm]; unfold manyN; rw [if_neg (by omega), hm0, ha]
          have emin : (if (cur.length : Int) - (a : Int) < (m0 : Int) then (cur.length : Int) - (a : Int) else (m0 : Int)) = (m : Int) := by split <;> omega
          have HST2 : Hid (stepL cur s = remL cur a m) := HST
          obtain rfl : q = m := by omega
          have K := Lib.hid (refRem_ok hsl2 a q (by omega) (by omega))
          clear HST hm ht ha hq hm0 hr hbn hsl2 htl hql hr3 hmm
          go_wp2_with fail
          refine K.out.mono ?_
          rintro e w2 ⟨B2, d2, rfl, hs2, hk2, hb2⟩
          have HN := Lib.hid (HI.out.next (HB.out.trans (hb2.mono HB.out.size)) hs2 hk2)
          have HC2 : Hid (remL cur a q = aftL l (ss.take (i + 1))) := Lib.hid (by rw [HT.out, ← HC.out, HST2.out])
          have hl2 : (remL cur a q).length ≤ l.length + 5 * (i + 1) := by rw [← HST2.out]; omega
          clear K hs2 hk2 hb2 HST2
          generalize remL cur a q = nx at *
          go_wp2_with fail
          go_roundw
          case rel => exact ⟨i + 1, nx, B2, d2, by omega, by omega, by go_num, rfl, hl2, HC2, HN⟩
          case measure => first | (simp [intOf]; done) | (simp [intOf]; omega)
        · have hmm : m = min m0 (cur.length - a) := by rw [← hm]; unfold manyN; rw [if_neg (by omega), hm0, ha]
          have emin : (if (cur.length : Int) - (a : Int) < (m0 : Int) then (cur.length : Int) - (a : Int) else (m0 : Int)) = (m : Int) := by split <;> omega
          have HST2 : Hid (stepL cur s = movL cur a m t) := HST
          obtain rfl : q = m := by omega
          have K := Lib.hid (refMv_ok hsl2 a q t (by omega) (by omega) (by omega))
          clear HST hm ht ha hq hm0 hr hbn hsl2 htl hql hr3 hmm
          go_wp2_with fail
          refine K.out.mono ?_
          rintro e w2 ⟨B2, d2, rfl, hs2, hk2, hb2⟩
          have HN := Lib.hid (HI.out.next (HB.out.trans (hb2.mono HB.out.size)) hs2 hk2)
          have HC2 : Hid (movL cur a q t = aftL l (ss.take (i + 1))) := Lib.hid (by rw [HT.out, ← HC.out, HST2.out])
          have hl2 : (movL cur a q t).length ≤ l.length + 5 * (i + 1) := by rw [← HST2.out]; omega
          clear K hs2 hk2 hb2 HST2
          generalize movL cur a q t = nx at *
          go_wp2_with fail
          go_roundw
          case rel => exact ⟨i + 1, nx, B2, d2, by omega, by omega, by go_num, rfl, hl2, HC2, HN⟩
          case measure => first | (simp [intOf]; done) | (simp [intOf]; omega)
      · have h2' : ¬ ((i : Int) < 12) := by omega
        have HF := Lib.hid (show RowK (aft l ss) w (.returned (.slice B' cur.length d')) wr from ⟨B', d', by unfold aft; rw [show (12 : Nat) = i by omega, ← HC.out], by unfold aft; rw [show (12 : Nat) = i by omega, ← HC.out]; exact HI.out.sl, HI.out.kd, HI.out.u⟩)
        clear HC HI
        go_wp2_with fail
        go_ret
        exact HF.out
    · have h1' : ¬ ((i : Int) < (ss.length : Int)) := by omega
      have he : ss.take i = ss.take 12 := by rw [List.take_of_length_le (by omega), List.take_of_length_le (by omega)]
      have HF := Lib.hid (show RowK (aft l ss) w (.returned (.slice B' cur.length d')) wr from ⟨B', d', by unfold aft; rw [← he, ← HC.out], by unfold aft; rw [← he, ← HC.out]; exact HI.out.sl, HI.out.kd, HI.out.u⟩)
      clear HC HI he
      go_wp2_with fail
      go_ret
      exact HF.out
end Go.Proofs.Ytakgnpmfnechhaa
