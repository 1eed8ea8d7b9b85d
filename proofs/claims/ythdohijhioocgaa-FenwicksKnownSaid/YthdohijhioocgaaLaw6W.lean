/- The walk of the law FenwicksKnown. -/
import Derived.Test.YthdohijhioocgaaLaw1W
namespace Go.Proofs.Ythdohijhioocgaa
open Go.RowKit

/-- the sizes 0, 1, 2, 0, 1, 2 .. -/
structure IsM (l : List Int) (n : Nat) : Prop where
  len : l.length = n
  at_ : ∀ k (h : k < l.length), l[k] = ((k % 3 : Nat) : Int)
theorem isM_ex (n : Nat) : ∃ l, IsM l n := ⟨(List.range n).map fun k => ((k % 3 : Nat) : Int), by simp, fun k h => by simp⟩
theorem IsM.pre {l : List Int} {n : Nat} (h : IsM l n) (k : Nat) (hk : k ≤ n) : pre l k = ((3 * (k / 3) + if k % 3 = 2 then 1 else 0 : Nat) : Int) := by
  have hl := h.len
  induction k with
  | zero => rw [pre_zero]; simp
  | succ k ih =>
    rw [pre_succ (by omega), ih (by omega), h.at_ k (by omega)]
    by_cases h1 : k % 3 = 2
    · rw [if_pos h1, if_neg (by omega)]; omega
    · by_cases h2 : k % 3 = 1
      · rw [if_neg h1, if_pos (by omega)]; omega
      · rw [if_neg h1, if_neg (by omega)]; omega
theorem IsM.vd {l : List Int} {n : Nat} (h : IsM l n) (hn : n ≤ 4096) : Vd l := by
  have hl := h.len
  refine ⟨by omega, fun k hk => ?_, ?_⟩
  · rw [h.at_ k hk]; omega
  · rw [h.pre _ (by omega)]
    by_cases h2 : l.length % 3 = 2
    · rw [if_pos h2]; omega
    · rw [if_neg h2]; omega
theorem IsM.take {l : List Int} {n : Nat} (h : IsM l n) (m : Nat) (hm : m ≤ n) : IsM (l.take m) m :=
  ⟨by rw [List.length_take, h.len]; omega, fun k hk => by
    have hk' : k < l.length := by simp at hk; omega
    rw [List.getElem_take]
    exact h.at_ k hk'⟩
theorem IsM.place {l : List Int} {n : Nat} (h : IsM l n) (x q : Nat) (hq : x / 3 = q) (hx : q * 3 + 2 < n) : ∃ i r : Nat, Place l x i ∧ (x : Int) - Ythdohijhioocgaa.pre l i = r ∧ ((x % 3 = 0 ∧ i = q * 3 + 1 ∧ r = 0) ∨ (x % 3 = 1 ∧ i = q * 3 + 2 ∧ r = 0) ∨ (x % 3 = 2 ∧ i = q * 3 + 2 ∧ r = 1)) := by
  have hl := h.len
  have p1 := h.pre (q * 3 + 1) (by omega)
  have p2 := h.pre (q * 3 + 1 + 1) (by omega)
  have p3 := h.pre (q * 3 + 2 + 1) (by omega)
  rw [if_neg (by omega)] at p1
  rw [if_pos (by omega)] at p2
  rw [if_neg (by omega)] at p3
  have e1 : (q * 3 + 1) / 3 = q := by omega
  have e2 : (q * 3 + 1 + 1) / 3 = q := by omega
  have e3 : (q * 3 + 2 + 1) / 3 = q + 1 := by omega
  rw [e1] at p1
  rw [e2] at p2
  rw [e3] at p3
  by_cases h0 : x % 3 = 0
  · exact ⟨q * 3 + 1, 0, ⟨by omega, by rw [p1]; omega, by rw [p2]; omega⟩, by rw [p1]; omega, .inl ⟨h0, rfl, rfl⟩⟩
  · by_cases h1 : x % 3 = 1
    · exact ⟨q * 3 + 2, 0, ⟨by omega, by rw [p2]; omega, by rw [p3]; omega⟩, by rw [p2]; omega, .inr (.inl ⟨h1, rfl, rfl⟩)⟩
    · exact ⟨q * 3 + 2, 1, ⟨by omega, by rw [p2]; omega, by rw [p3]; omega⟩, by rw [p2]; omega, .inr (.inr ⟨by omega, rfl, rfl⟩)⟩

theorem RdI.take {w : World} {B : Nat} {A : Option Addr} {zs : List Int} (h : RdI w B A zs) (m : Nat) : RdI w B A (zs.take m) := fun k hl => by
  have hk : k < zs.length := by simp at hl; omega
  obtain ⟨b, o, e, hb, hc⟩ := h k hk
  exact ⟨b, o, e, hb, by rw [hc, List.getElem_take]⟩

theorem below_bk {w w1 w2 : World} {n : Nat} (h : Below w.heap.size w w1) (k : Below (w1.drewN n).heap.size (w1.drewN n) w2) : Below w.heap.size w w2 :=
  h.trans ((show Below w1.heap.size w1 w2 from ⟨k.os, k.tape, k.output, k.size, k.block⟩).mono h.size)
def lC : List Int := [2305843009213693952, 0, 2305843009213693952]
def lD : List Int := [2305843009213693951, 0, 2305843009213693952]
def lE : List Int := [2305843009213693951, 1, 2305843009213693952]
theorem vdC : Vd lC := chk_zero.1 (by decide)
theorem vdN : Vd [] := chk_zero.1 (by decide)
theorem setC : lC.set 0 2305843009213693951 = lD := rfl
theorem setD : lD.set 1 1 = lE := rfl
set_option maxRecDepth 100000 in
set_option maxHeartbeats 8000000 in
theorem law6_any (hL : LivesOk) (w : World) : Calls Try.prog 8 #[] w fun e w' => e = .returned (.bool true) ∧ Below w.heap.size w w' := by
  have HL := Lib.hid hL; clear hL
  obtain ⟨l, hM⟩ := isM_ex 4097
  have HM := Lib.hid hM
  have hlen : Hid (l.length = 4097) := Lib.hid hM.len
  have hmk := make_ints 4097 4097 rfl (by omega)
  obtain ⟨Z, hZ⟩ : ∃ Z, Z = ints (List.replicate 4097 0) := ⟨_, rfl⟩
  rw [← hZ] at hmk
  have h0 : Hid ((w.alloc (.cells Z 2)).heap[w.heap.size]? = some (.cells (ints (part l 0)) 2 (0, 0))) := Lib.hid (by rw [part_zero, hlen.out, ← hZ]; exact heap_alloc_new w _)
  have B0 : Hid (Below w.heap.size w (w.alloc (.cells Z 2))) := Lib.hid ((Below.refl _ _).alloc (Nat.le_refl _) _)
  clear hM hZ
  go_enter Try.func8, Try.ntmps8
  go_wp2_with fail
  go_loopw [2] (fun k wr => ∃ j : Nat, k = .int .i64 j ∧ j ≤ 4097 ∧ Hid (wr.heap[w.heap.size]? = some (.cells (ints (part l j)) 2 (0, 0))) ∧ Hid (Below w.heap.size w wr)) (fun k _ => 4097 - (intOf k).toNat)
  case atStart => exact ⟨0, rfl, Nat.zero_le _, h0, B0⟩
  case round =>
    obtain ⟨j, rfl, hj, HG, HB⟩ := hrel
    by_cases hlt : j < 4097
    · have hjl : j < l.length := by have := hlen.out; omega
      have hlp : j < (part l j).length := by rw [part_len l j (by omega)]; exact hjl
      have hcl : wr.cell? ⟨w.heap.size, j, none⟩ = some (.int .i64 0) := by
        rw [cell_of_row wr w.heap.size j (ints (part l j)) 2 (0, 0) HG.out]
        simp [ints, hlp, part_at hjl hlp]
      have hfz : wr.frozen? ⟨w.heap.size, j, none⟩ = false := by simp [World.frozen?, HG.out]
      have HS : Hid ((wr.setCell ⟨w.heap.size, j, none⟩ (.int .i64 ((j : Int) % 3))).heap[w.heap.size]? = some (.cells (ints (part l (j + 1))) 2 (0, 0))) := Lib.hid (by
        have := row_set HG.out 0 j l[j]
        have e := part_succ hjl hlp
        rw [part_at hjl hlp, Int.zero_add] at e
        rw [e] at this
        have e2 := HM.out.at_ j hjl
        rw [e2, show ((j % 3 : Nat) : Int) = (j : Int) % 3 from by omega] at this
        exact this)
      have HB' : Hid (Below w.heap.size w (wr.setCell ⟨w.heap.size, j, none⟩ (.int .i64 ((j : Int) % 3)))) := Lib.hid (HB.out.setCell (p := ⟨w.heap.size, j, none⟩) (Nat.le_refl _) _)
      clear hlp hjl
      go_wp2_with fail
      go_roundw
      case rel => exact ⟨j + 1, by go_num, by omega, HS, HB'⟩
      case measure => simp [intOf]; omega
    · obtain rfl : j = 4097 := by omega
      have HG1 : Hid (wr.heap[w.heap.size]? = some (.cells (ints l) 2 (0, 0))) := Lib.hid (by have := HG.out; rwa [← hlen.out, part_all] at this)
      have HR := Lib.hid (RdI.row HG1.out)
      have HM4 := Lib.hid (HM.out.take 4096 (by omega))
      have k11 : Hid (Calls Try.prog 11 #[.slice (some ⟨w.heap.size, 0, none⟩) 4096 4097] wr (Made wr (l.take 4096))) := Lib.hid (by
        have := new_ok (some ⟨w.heap.size, 0, none⟩) 4097 (l.take 4096) wr (HR.out.take 4096) (HM4.out.vd (Nat.le_refl _))
        rwa [HM4.out.len] at this)
      have k11b : Hid (∀ W, RdI W W.heap.size (some ⟨w.heap.size, 0, none⟩) l → Calls Try.prog 11 #[.slice (some ⟨w.heap.size, 0, none⟩) 4097 4097] W fun e w' => e = .returned (.tuple #[.pointer none, .int .i64 3]) ∧ W = w') := Lib.hid (fun W h => by
        have hc : chk l = 3 := by unfold chk; rw [if_pos (by have := hlen.out; omega)]
        have := new_bad (some ⟨w.heap.size, 0, none⟩) 4097 l W h (by have := hlen.out; omega) (by omega)
        rwa [hlen.out, hc] at this)
      clear HG
      go_wp2_with fail
      refine k11.out.mono ?_
      rintro e w1 ⟨b, S, s, rfl, hT, hb, hS, hB⟩
      have HT := Lib.hid hT
      have HR1 := Lib.hid (HR.out.next hB)
      have HB1 := Lib.hid (HB.out.trans (hB.mono HB.out.size))
      have k11c := Lib.hid (k11b.out w1 HR1.out)
      have k14 : Hid (Calls Try.prog 14 #[.pointer (some ⟨b, 0, none⟩)] w1 fun e w' => e = .returned (.int .i64 4095) ∧ w1 = w') := Lib.hid (by
        have := total_tree hT
        rw [HM4.out.len, HM4.out.pre 4096 (Nat.le_refl _)] at this
        exact this)
      clear hT hb hS hB k11 k11b HB
      go_wp2_with fail
      refine k11c.out.mono ?_
      rintro e w' ⟨rfl, rfl⟩
      go_wp2_with fail
      refine k14.out.mono ?_
      rintro e w' ⟨rfl, rfl⟩
      go_wp2_with fail
      go_loop [7] (fun k => ∃ m : Nat, k = .int .i64 m ∧ m ≤ 4107) (fun k => 4107 - (intOf k).toNat)
      case atStart => exact ⟨0, rfl, Nat.zero_le _⟩
      case round =>
        obtain ⟨m, rfl, hm⟩ := hrel
        by_cases hlt : m < 4095
        · obtain ⟨i, r, hp, hr, hw⟩ := HM4.out.place m (m / 3) rfl (by omega)
          have k20 := Lib.hid (find_at HT.out m i hp r hr)
          have hq : (m : Int) / 3 = ((m / 3 : Nat) : Int) := by omega
          have hq2 : m / 3 ≤ 1366 := by omega
          generalize m / 3 = q at *
          clear hp hr
          rcases hw with ⟨h0, rfl, rfl⟩ | ⟨h0, rfl, rfl⟩ | ⟨h0, rfl, rfl⟩
          · have h0' : (m : Int) % 3 = 0 := by omega
            clear h0
            go_wp2_with fail
            refine k20.out.mono ?_
            rintro e w' ⟨rfl, rfl⟩
            go_wp2_with fail
            go_round
            case rel => exact ⟨m + 13, by go_num, by omega⟩
            case measure => simp [intOf]; omega
          · have h0' : (m : Int) % 3 = 1 := by omega
            clear h0
            go_wp2_with fail
            refine k20.out.mono ?_
            rintro e w' ⟨rfl, rfl⟩
            go_wp2_with fail
            go_round
            case rel => exact ⟨m + 13, by go_num, by omega⟩
            case measure => simp [intOf]; omega
          · have h0' : (m : Int) % 3 = 2 := by omega
            clear h0
            go_wp2_with fail
            refine k20.out.mono ?_
            rintro e w' ⟨rfl, rfl⟩
            go_wp2_with fail
            go_round
            case rel => exact ⟨m + 13, by go_num, by omega⟩
            case measure => simp [intOf]; omega
        · have hr3 := Lib.hid (RdI.lit1 (W := w1) (t := 2) (cs := #[.int .i64 2305843009213693952, .int .i64 0, .int .i64 2305843009213693952]) (zs := lC) w1.heap.size rfl rfl)
          have HB3 := Lib.hid (HB1.out.alloc HB1.out.size (.cells #[.int .i64 2305843009213693952, .int .i64 0, .int .i64 2305843009213693952] 2))
          have hw1 := HB1.out.size
          go_wp2_with fail
          refine (new_ok _ _ lC _ hr3.out vdC).mono ?_
          rintro e w2 ⟨b2, S2, s2, rfl, hT2, hb2, hS2, hB2⟩
          have HT2 := Lib.hid hT2
          have HB4 := Lib.hid (HB3.out.trans (hB2.mono HB3.out.size))
          have hS2' : w.heap.size ≤ S2 := by simp at hS2; omega
          have k20 := Lib.hid (find_at HT2.out 4611686018427387903 2 ⟨by decide, by decide, by decide⟩ 2305843009213693951 rfl)
          have k23 := Lib.hid (set_over HT2.out 1 (by decide) 1 (by decide) (by decide) (by decide))
          clear hT2 hb2 hS2 hB2 hr3 HB3
          go_wp2_with fail
          refine k20.out.mono ?_
          rintro e w' ⟨rfl, rfl⟩
          go_wp2_with fail
          refine k23.out.mono ?_
          rintro e w' ⟨rfl, n1, rfl⟩
          have k23b := Lib.hid (set_ok (HT2.out.drewN n1) 0 (by decide) 2305843009213693951 (by decide) (by decide) (by decide))
          go_wp2_with fail
          refine k23b.out.mono ?_
          rintro e w3 ⟨rfl, s3, hT3, hg3⟩
          have HT3 : Hid (Tr w3 b2 S2 lD s3) := Lib.hid hT3
          have HB5 := Lib.hid (HB4.out.grown (⟨hg3.os, hg3.tape, hg3.output, hg3.size, hg3.block⟩ : w2.grownBy w3 (some S2)) HB4.out.size (by intro g h; injection h with h; omega))
          clear hT3 hg3
          have k23c := Lib.hid (set_ok HT3.out 1 (by decide) 1 (by decide) (by decide) (by decide))
          go_wp2_with fail
          refine k23c.out.mono ?_
          rintro e w4 ⟨rfl, s4, hT4, hg4⟩
          have HT4 : Hid (Tr w4 b2 S2 lE s4) := Lib.hid hT4
          have HB6 := Lib.hid (HB5.out.grown hg4 HB5.out.size (by intro g h; injection h with h; omega))
          clear hT4 hg4
          have k23d := Lib.hid (set_height HT4.out 2 (by decide) 2305843009213693953 (by decide))
          go_wp2_with fail
          refine k23d.out.mono ?_
          rintro e w' ⟨rfl, n2, rfl⟩
          have k11n := Lib.hid (new_ok none 0 [] (w4.drewN n2) RdI.nil vdN)
          go_wp2_with fail
          refine k11n.out.mono ?_
          rintro e w5 ⟨b5, S5, s5, rfl, hT5, hb5, hS5, hB5⟩
          have HT5 := Lib.hid hT5
          have HB7 := Lib.hid (below_bk HB6.out hB5)
          clear hT5 hb5 hS5 hB5
          have k18 := Lib.hid (sum_at HT5.out 0 0 rfl (by decide) 0 rfl)
          have k20n := Lib.hid (find_out HT5.out 0 (.inr (by decide)))
          have k13 : Hid (Calls Try.prog 13 #[.pointer (some ⟨b5, 0, none⟩)] w5 fun e w' => e = .returned (.int .i64 0) ∧ w5 = w') := Lib.hid (len_tree HT5.out)
          go_wp2_with fail
          refine k18.out.mono ?_
          rintro e w' ⟨rfl, rfl⟩
          go_wp2_with fail
          refine k20n.out.mono ?_
          rintro e w' ⟨rfl, rfl⟩
          go_wp2_with fail
          refine k13.out.mono ?_
          rintro e w' ⟨rfl, rfl⟩
          go_wp2_with fail
          refine (HL.out _).mono ?_
          rintro e w6 ⟨rfl, hb6⟩
          have HB8 := Lib.hid (HB7.out.trans (hb6.mono HB7.out.size))
          clear hb6
          go_wp2_with fail
          go_ret
          exact ⟨rfl, HB8.out⟩
end Go.Proofs.Ythdohijhioocgaa
