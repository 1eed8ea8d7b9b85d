/- The walk of the law GapsKnown. -/
import Derived.Test.YtecoobeddjfegaaNilW
import Derived.Test.YtecoobeddjfegaaIv
namespace Go.Proofs.Ytecoobeddjfegaa
open Go.RowKit

/-- the numbers 0, 1, 2 .. up to j, then noughts -/
structure UpTo (l : List Int) (n j : Nat) : Prop where
  len : l.length = n
  at_ : ∀ k (h : k < l.length), l[k] = if k < j then (k : Int) else 0
theorem upTo_zero (n : Nat) : UpTo (List.replicate n 0) n 0 := ⟨by simp, fun k h => by simp⟩
theorem UpTo.next {l : List Int} {n j : Nat} (h : UpTo l n j) : UpTo (l.set j (j : Int)) n (j + 1) := by
  have hl := h.len
  refine ⟨by simpa using hl, fun k hk => ?_⟩
  have hk' : k < l.length := by simpa using hk
  rw [List.getElem_set]
  by_cases e : j = k
  · subst e
    rw [if_pos rfl, if_pos (by omega)]
  · rw [if_neg e, h.at_ k hk']
    by_cases h2 : k < j
    · rw [if_pos h2, if_pos (by omega)]
    · rw [if_neg h2, if_neg (by omega)]
/-- the first q of the numbers stand at the end: q, q + 1 .. n - 1, 0 .. q - 1 -/
structure Turned (xs : List Value) (n q : Nat) : Prop where
  len : xs.length = n
  at_ : ∀ k, k < n → xs[k]? = some (.int .i64 (if k + q < n then ((k + q : Nat) : Int) else ((k + q - n : Nat) : Int)))
theorem Turned.next {xs : List Value} {n q : Nat} (h : Turned xs n q) (hn : 0 < n) (hq : q < n) : Turned (moved xs 0 1 (n - 1)) n (q + 1) := by
  have hl := h.len
  have e1 : (xs.take 0 ++ xs.drop (0 + 1)).length = n - 1 := by simp; omega
  have e2 : (xs.drop 0).take 1 = xs.take 1 := by simp
  have e3 : (xs.take 1).length = 1 := by simp; omega
  have e4 : moved xs 0 1 (n - 1) = xs.drop 1 ++ xs.take 1 := by
    unfold moved
    rw [List.take_of_length_le (by omega), List.drop_of_length_le (l := xs.take 0 ++ xs.drop (0 + 1)) (by omega), e2]
    simp
  rw [e4]
  refine ⟨by simp; omega, fun k hk => ?_⟩
  by_cases hk2 : k < n - 1
  · rw [List.getElem?_append_left (by simp; omega), List.getElem?_drop, h.at_ (1 + k) (by omega)]
    by_cases h3 : 1 + k + q < n
    · rw [if_pos h3, if_pos (by omega)]
      congr 3; omega
    · rw [if_neg h3, if_neg (by omega)]
      congr 3; omega
  · rw [List.getElem?_append_right (by simp; omega), List.getElem?_take, if_pos (by simp; omega)]
    have e5 : k - (xs.drop 1).length = 0 := by simp; omega
    rw [e5, h.at_ 0 hn, if_pos (by omega), if_neg (by omega)]
    congr 3; omega
theorem UpTo.turned {l : List Int} {n m : Nat} (h : UpTo l n n) (hm : m ≤ n) : Turned (iv (l.take m)) m 0 := by
  have hl := h.len
  refine ⟨by simp [iv]; omega, fun k hk => ?_⟩
  have hkl : k < l.length := by omega
  have := h.at_ k hkl
  rw [if_pos (by omega)] at this
  simp [iv, hk, hkl, this]
theorem RdV.take {w : World} {B : Nat} {A : Option Addr} {zs : List Int} (h : RdV w B A (iv zs)) (m : Nat) : RdV w B A (iv (zs.take m)) := fun k hl => by
  have hk : k < (iv zs).length := by simp [iv] at hl ⊢; omega
  obtain ⟨b, o, e, hb, hc⟩ := h k hk
  exact ⟨b, o, e, hb, by rw [hc]; simp [iv]⟩
theorem iv_set (l : List Int) (j : Nat) (v : Int) : (iv l).toArray.setIfInBounds j (.int .i64 v) = (iv (l.set j v)).toArray := by
  apply Array.ext'
  simp [iv, List.map_set]
set_option maxRecDepth 100000 in
set_option maxHeartbeats 8000000 in
theorem law6_any (hL : LivesOk) (w : World) : Calls Try.prog 6 #[] w fun e w' => e = .returned (.bool true) ∧ Below w.heap.size w w' := by
  have HL := Lib.hid hL; clear hL
  obtain ⟨l0, hl0, hU0⟩ : ∃ l0 : List Int, l0 = List.replicate 4097 0 ∧ UpTo l0 4097 0 := ⟨_, rfl, upTo_zero 4097⟩
  obtain ⟨Z, hZ⟩ : ∃ Z : Array Value, Z = (List.replicate 4097 (Value.int .i64 0)).toArray := ⟨_, rfl⟩
  have hmk := imake_row 4097 4097 rfl (by omega)
  rw [← hZ] at hmk
  have hZ2 : Z = (iv l0).toArray := by rw [hZ, hl0, iv, List.map_replicate]
  have h0 : Hid ((w.alloc (.cells Z 3)).heap[w.heap.size]? = some (.cells (iv l0).toArray 3 (0, 0))) := Lib.hid (by rw [← hZ2]; exact heap_alloc_new w _)
  have B0 : Hid (Below w.heap.size w (w.alloc (.cells Z 3))) := Lib.hid ((Below.refl _ _).alloc (Nat.le_refl _) _)
  have HU0 := Lib.hid hU0
  clear hZ hZ2 hl0 hU0
  go_enter Try.func6, Try.ntmps6
  go_wp2_with fail
  go_loopw [2] (fun u wr => ∃ (j : Nat) (l : List Int), u = .int .i64 j ∧ j ≤ 4097 ∧ Hid (wr.heap[w.heap.size]? = some (.cells (iv l).toArray 3 (0, 0))) ∧ Hid (UpTo l 4097 j) ∧ Hid (Below w.heap.size w wr)) (fun u _ => 4097 - (intOf u).toNat)
  case atStart => exact ⟨0, l0, rfl, Nat.zero_le _, h0, HU0, B0⟩
  case round =>
    clear h0 HU0 B0 hmk
    obtain ⟨j, l, rfl, hj, HR, HU, HB⟩ := hrel
    by_cases hlt : j < 4097
    · have hlj : j < l.length := by rw [HU.out.len]; exact hlt
      have hc : wr.cell? ⟨w.heap.size, j, none⟩ = some (.int .i64 l[j]) := by
        rw [cell_of_row wr w.heap.size j _ 3 (0, 0) HR.out]
        simp [iv, hlj]
      have hf : wr.frozen? ⟨w.heap.size, j, none⟩ = false := by simp [World.frozen?, HR.out]
      have HS : Hid ((wr.setCell ⟨w.heap.size, j, none⟩ (.int .i64 (j : Int))).heap[w.heap.size]? = some (.cells (iv (l.set j (j : Int))).toArray 3 (0, 0))) := Lib.hid (by
        rw [← iv_set]
        have h := HR.out
        simp [World.setCell, Array.getElem?_modify, h])
      have HU2 := Lib.hid HU.out.next
      have HB2 : Hid (Below w.heap.size w (wr.setCell ⟨w.heap.size, j, none⟩ (.int .i64 (j : Int)))) := Lib.hid (HB.out.setCell (p := ⟨w.heap.size, j, none⟩) (Nat.le_refl _) _)
      generalize l[j] = v at *
      generalize l.set j (j : Int) = l2 at *
      have hji : (j : Int) < 4097 := by omega
      go_wp2_with fail
      go_roundw
      case rel => exact ⟨j + 1, l2, by go_num, by omega, HS, HU2, HB2⟩
      case measure => simp [intOf]; omega
    · obtain rfl : j = 4097 := by omega
      have HLN : Hid (l.length = 4097) := Lib.hid HU.out.len
      have HT0 := Lib.hid (HU.out.turned (m := 4096) (by omega))
      have HRD : Hid (RdV wr wr.heap.size (some ⟨w.heap.size, 0, none⟩) (iv l)) := Lib.hid (RdV.row HR.out)
      have K1 := Lib.hid (inew_long (w := wr) (some ⟨w.heap.size, 0, none⟩) 4097 4097 (by omega))
      clear HR HU
      go_wp2_with fail
      refine K1.out.mono ?_
      rintro r w1 ⟨rfl, hb⟩
      have HB1 := Lib.hid (HB.out.trans (hb.mono HB.out.size))
      have HRD1 := Lib.hid ((HRD.out.next hb).take 4096)
      obtain ⟨X, hX⟩ : ∃ X, X = iv (l.take 4096) := ⟨_, rfl⟩
      have hone : ∀ v ∈ X, v.oneCell' = true := by rw [hX]; exact iv_one _
      have hXl : X.length = 4096 := by rw [hX, iv_len, List.length_take, HLN.out]; rfl
      rw [← hX] at HT0 HRD1
      have K2 : Hid (Calls Try.prog 8 #[.slice (some ⟨w.heap.size, 0, none⟩) 4096 4097] w1 fun r w' => (∃ b, r = .returned (.tuple #[.pointer (some ⟨b, 0, none⟩), .int .i64 0]) ∧ Has 3 39 w1.heap.size w'.heap.size w' b 4096 X 4096) ∧ Below w1.heap.size w1 w') :=
        Lib.hid (inew_ok hXl (by omega) HRD1.out hone)
      clear hb HRD K1 hX hone hXl HRD1 HB
      go_wp2_with fail
      refine K2.out.mono ?_
      rintro r w2 ⟨⟨b, rfl, hh⟩, hb⟩
      have HH2 := Lib.hid (hh.alloc (.cells #[.int .i64 1] 3))
      have HB2 := Lib.hid (HB1.out.trans (hb.mono HB1.out.size))
      have HB2' : Hid (Below w.heap.size w (w2.alloc (.cells #[.int .i64 1] 3))) := Lib.hid (HB2.out.alloc HB2.out.size _)
      have HWB : Hid (w.heap.size ≤ w1.heap.size) := Lib.hid HB1.out.size
      have K3 := Lib.hid (iinsert_long HH2.out 7 (by omega) (some ⟨w2.heap.size, 0, none⟩) 1 1 (by omega))
      have K4 : Hid (∀ m, Calls Try.prog 9 #[.pointer (some ⟨b, 0, none⟩), .int .i64 7, .slice none 0 0] ((w2.alloc (.cells #[.int .i64 1] 3)).drewN m) fun r w' => r = .returned (.int .i64 0) ∧ Has 3 39 w1.heap.size w'.heap.size w' b 4096 X 4096 ∧ Below w1.heap.size ((w2.alloc (.cells #[.int .i64 1] 3)).drewN m) w') := Lib.hid (fun m => by
        refine (iinsert_ok (HH2.out.drewN m) 7 (by omega) (m := 0) (c := 0) (ys := []) rfl (by omega) RdV.nil (fun a o e => by cases e) (by simp)).mono ?_
        rintro r w' ⟨rfl, hh, hb⟩
        rw [List.nil_append, List.take_append_drop, if_pos rfl] at hh
        exact ⟨rfl, hh, hb⟩)
      clear hh hb K2 HB1 HB2
      go_wp2_with fail
      refine K3.out.mono ?_
      rintro r w' ⟨rfl, m1, rfl⟩
      go_wp2_with fail
      refine (K4.out m1).mono ?_
      rintro r w3 ⟨rfl, hh, hb⟩
      have HH3 := Lib.hid hh
      have HB3 : Hid (Below w.heap.size w w3) := Lib.hid ((below_drewN HB2'.out m1).trans (hb.mono HWB.out))
      have K5 := Lib.hid (iinsert_bad hh 4097 (.slice none 0 0) (.inr (by decide)))
      clear hh hb K3 K4 HB2' HH2
      go_wp2_with fail
      refine K5.out.mono ?_
      rintro r w' ⟨rfl, m2, rfl⟩
      have HH4 := Lib.hid ((HH3.out.drewN m2).alloc (.cells #[.int .i64 1] 3))
      have HB4 : Hid (Below w.heap.size w ((w3.drewN m2).alloc (.cells #[.int .i64 1] 3))) := Lib.hid ((below_drewN HB3.out m2).alloc HB3.out.size _)
      have K6 := Lib.hid (iinsert_bad HH4.out 4097 (.slice (some ⟨w3.heap.size, 0, none⟩) 1 1) (.inr (by decide)))
      clear K5 HH3 HB3
      go_wp2_with fail
      refine K6.out.mono ?_
      rintro r w' ⟨rfl, m3, rfl⟩
      have HH5 : Hid (∃ g U, Has 3 39 w1.heap.size U (((w3.drewN m2).alloc (.cells #[.int .i64 1] 3)).drewN m3) b 4096 X g) := Lib.hid ⟨_, _, HH4.out.drewN m3⟩
      have HB5 : Hid (Below w.heap.size w (((w3.drewN m2).alloc (.cells #[.int .i64 1] 3)).drewN m3)) := Lib.hid (below_drewN HB4.out m3)
      clear K6 HH4 HB4
      go_wp2_with fail
      rename World => w4
      go_loopw [7] (fun u wr => ∃ (q : Nat) (Y : List Value), u = .int .i64 q ∧ q ≤ 100 ∧ Hid (Turned Y 4096 q) ∧ Hid (∃ g U, Has 3 39 w1.heap.size U wr b 4096 Y g) ∧ Hid (Below w.heap.size w wr)) (fun u _ => 100 - (intOf u).toNat)
      case atStart => exact ⟨0, X, rfl, Nat.zero_le _, HT0, HH5, HB5⟩
      case round =>
        clear HT0 HH5 HB5
        obtain ⟨q, Y, rfl, hq, HT, HH, HB⟩ := hrel
        by_cases hlt : q < 100
        · have hqi : (q : Int) < 100 := by omega
          have HT2 := Lib.hid (HT.out.next (by omega) (by omega))
          have K : Hid (Calls Try.prog 12 #[.pointer (some ⟨b, 0, none⟩), .int .i64 0, .int .i64 1, .int .i64 4095] wr fun r w' => r = .returned (.int .i64 0) ∧ (∃ g U, Has 3 39 w1.heap.size U w' b 4096 (moved Y 0 1 (4096 - 1)) g) ∧ Below w1.heap.size wr w') := Lib.hid (by
            obtain ⟨g, U, hh⟩ := HH.out
            refine (imove_ok hh 0 1 4095 (by omega) (by omega)).mono ?_
            rintro r w' ⟨rfl, h2, h3⟩
            exact ⟨rfl, ⟨_, _, h2⟩, h3⟩)
          clear HH
          generalize moved Y 0 1 (4096 - 1) = Y2 at *
          go_wp2_with fail
          refine K.out.mono ?_
          rintro r w5 ⟨rfl, hh, hb⟩
          have HH2 := Lib.hid hh
          have HB2 := Lib.hid (HB.out.trans (hb.mono HWB.out))
          clear hh hb
          go_wp2_with fail
          go_roundw
          case rel => exact ⟨q + 1, Y2, by go_num, by omega, HT2, HH2, HB2⟩
          case measure => simp [intOf]; omega
        · obtain rfl : q = 100 := by omega
          obtain ⟨g, U, hh⟩ := HH.out
          have HH6 := Lib.hid hh
          have a0 : Y[0]? = some (.int .i64 100) := HT.out.at_ 0 (by omega)
          have a1 : Y[4095]? = some (.int .i64 99) := HT.out.at_ 4095 (by omega)
          have a2 : Y[3996]? = some (.int .i64 0) := HT.out.at_ 3996 (by omega)
          have K1 : Hid (Calls Try.prog 14 #[.pointer (some ⟨b, 0, none⟩), .int .i64 0] wr fun r w' => r = .returned (.tuple #[.int .i64 100, .int .i64 0]) ∧ ∃ m, w' = wr.drewN m) := Lib.hid (iat_ok hh 0 (by omega) _ a0)
          have K2 : Hid (∀ x, Calls Try.prog 14 #[.pointer (some ⟨b, 0, none⟩), .int .i64 4095] (wr.drewN x) fun r w' => r = .returned (.tuple #[.int .i64 99, .int .i64 0]) ∧ ∃ m, w' = (wr.drewN x).drewN m) := Lib.hid (fun x => iat_ok (hh.drewN x) 4095 (by omega) _ a1)
          have K3 : Hid (∀ x, Calls Try.prog 14 #[.pointer (some ⟨b, 0, none⟩), .int .i64 3996] (wr.drewN x) fun r w' => r = .returned (.tuple #[.int .i64 0, .int .i64 0]) ∧ ∃ m, w' = (wr.drewN x).drewN m) := Lib.hid (fun x => iat_ok (hh.drewN x) 3996 (by omega) _ a2)
          have A0 := Lib.hid a0
          clear hh HH a0 a1 a2
          go_wp2_with fail
          refine K1.out.mono ?_
          rintro r w' ⟨rfl, x1, rfl⟩
          go_wp2_with fail
          refine (K2.out x1).mono ?_
          rintro r w' ⟨rfl, x2, rfl⟩
          go_wp2_with fail
          refine (K3.out (x1 + x2)).mono ?_
          rintro r w' ⟨rfl, x3, rfl⟩
          have K4 : Hid (Calls Try.prog 10 #[.pointer (some ⟨b, 0, none⟩), .int .i64 1, .int .i64 4095] (wr.drewN (x1 + x2 + x3)) fun r w' => r = .returned (.int .i64 0) ∧ Has 3 39 w1.heap.size U w' b 1 (Y.take 1 ++ Y.drop (1 + 4095)) 1 ∧ Below w1.heap.size (wr.drewN (x1 + x2 + x3)) w') := Lib.hid (iremove_ok (HH6.out.drewN (x1 + x2 + x3)) 1 4095 (by omega))
          clear K1 K2 K3
          go_wp2_with fail
          refine K4.out.mono ?_
          rintro r w6 ⟨rfl, hh, hb⟩
          have HB6 : Hid (Below w.heap.size w w6) := Lib.hid ((below_drewN HB.out (x1 + x2 + x3)).trans (hb.mono HWB.out))
          obtain ⟨V, hV⟩ : ∃ V, V = Y.take 1 ++ Y.drop (1 + 4095) := ⟨_, rfl⟩
          have hV0 : V[0]? = some (.int .i64 100) := by
            rw [hV, List.getElem?_append_left (by rw [List.length_take, HT.out.len]; omega), List.getElem?_take, if_pos (by omega)]
            exact A0.out
          rw [← hV] at hh
          have HH7 := Lib.hid hh
          have K5 := Lib.hid (ihlen hh)
          have K6 : Hid (∀ x, Calls Try.prog 14 #[.pointer (some ⟨b, 0, none⟩), .int .i64 0] (w6.drewN x) fun r w' => r = .returned (.tuple #[.int .i64 100, .int .i64 0]) ∧ ∃ m, w' = (w6.drewN x).drewN m) := Lib.hid (fun x => iat_ok (hh.drewN x) 0 (by omega) _ hV0)
          have K7 : Hid (∀ x, Calls Try.prog 10 #[.pointer (some ⟨b, 0, none⟩), .int .i64 9223372036854775807, .int .i64 1] (w6.drewN x) fun r w' => r = .returned (.int .i64 4) ∧ ∃ m, w' = (w6.drewN x).drewN m) := Lib.hid (fun x => iremove_bad (hh.drewN x) 9223372036854775807 1 (by omega) (by omega))
          have K8 : Hid (∀ x, Calls Try.prog 10 #[.pointer (some ⟨b, 0, none⟩), .int .i64 0, .int .i64 9223372036854775807] (w6.drewN x) fun r w' => r = .returned (.int .i64 4) ∧ ∃ m, w' = (w6.drewN x).drewN m) := Lib.hid (fun x => iremove_bad (hh.drewN x) 0 9223372036854775807 (by omega) (by omega))
          have K9 : Hid (∀ x, Calls Try.prog 12 #[.pointer (some ⟨b, 0, none⟩), .int .i64 0, .int .i64 1, .int .i64 1] (w6.drewN x) fun r w' => r = .returned (.int .i64 4) ∧ ∃ m, w' = (w6.drewN x).drewN m) := Lib.hid (fun x => imove_out (hh.drewN x) 0 1 1 (by omega) (.inr (by omega)))
          have K10 : Hid (∀ x, Calls Try.prog 12 #[.pointer (some ⟨b, 0, none⟩), .int .i64 0, .int .i64 1, .int .i64 0] (w6.drewN x) fun r w' => r = .returned (.int .i64 0) ∧ Below w1.heap.size (w6.drewN x) w') := Lib.hid (fun x => (imove_ok (hh.drewN x) 0 1 0 (by omega) (by omega)).mono fun _ _ h => ⟨h.1, h.2.2⟩)
          clear hh hb hV hV0 K4 HH6 HT A0
          go_wp2_with fail
          refine K5.out.mono ?_
          rintro r w' ⟨rfl, y1, rfl⟩
          go_wp2_with fail
          refine (K6.out y1).mono ?_
          rintro r w' ⟨rfl, y2, rfl⟩
          go_wp2_with fail
          refine (K7.out (y1 + y2)).mono ?_
          rintro r w' ⟨rfl, y3, rfl⟩
          go_wp2_with fail
          refine (K8.out (y1 + y2 + y3)).mono ?_
          rintro r w' ⟨rfl, y4, rfl⟩
          go_wp2_with fail
          refine (K9.out (y1 + y2 + y3 + y4)).mono ?_
          rintro r w' ⟨rfl, y5, rfl⟩
          go_wp2_with fail
          refine (K10.out (y1 + y2 + y3 + y4 + y5)).mono ?_
          rintro r w7 ⟨rfl, hb7⟩
          have HB7 : Hid (Below w.heap.size w w7) := Lib.hid ((below_drewN HB6.out (y1 + y2 + y3 + y4 + y5)).trans (hb7.mono HWB.out))
          clear hb7
          go_wp2_with fail
          refine (HL.out _).mono ?_
          rintro r w8 ⟨rfl, hb8⟩
          have HB8 : Hid (Below w.heap.size w w8) := Lib.hid (HB7.out.trans (hb8.mono HB7.out.size))
          clear hb8
          go_wp2_with fail
          go_ret
          exact ⟨rfl, HB8.out⟩
end Go.Proofs.Ytecoobeddjfegaa
