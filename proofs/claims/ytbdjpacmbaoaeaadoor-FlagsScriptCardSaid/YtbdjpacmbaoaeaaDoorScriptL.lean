/- The walk of FlagsScript. -/
import Derived.Test.YtbdjpacmbaoaeaaDoorScM
namespace Go.Proofs.YtbdjpacmbaoaeaaDoor
open Go.RowKit S

set_option maxRecDepth 100000 in
set_option maxHeartbeats 8000000 in
theorem scriptLaw_any (A : Option Addr) (c : Nat) (l : List Bool) (C : Option Addr) (d : Nat) (st : List Step) (w : World) (hr : SlB w A c l) (hs : RdSt w w.heap.size C st) (hT : Tab w) (h0 : 0 < w.heap.size) :
    Calls Tryd.prog 5 #[.slice A l.length c, .slice C st.length d] w fun e w' => e = .returned (.bool true) ∧ Below w.heap.size w w' := by
  have HT := Lib.hid hT
  have HR := Lib.hid hr
  have HS := Lib.hid hs
  clear hT hr hs
  by_cases hl : l.length ≤ 200
  · by_cases hsl : st.length ≤ 20
    · have KM := Lib.hid (made_any A c l w HR.out.rd (by omega))
      go_enter Tryd.func5, Tryd.ntmps5
      go_wp2_with fail
      refine KM.out.mono ?_
      rintro e w1 ⟨b, rfl, hn⟩
      have HN := Lib.hid hn
      clear hn KM
      have K := Lib.hid (copy_any HN.out.1)
      go_wp2_with fail
      refine K.out.mono ?_
      rintro e w2 ⟨f, rfl, hc⟩
      have HF := Lib.hid (Nw.more HN.out.2.2 hc)
      have HN2 := Lib.hid (Nw.below HN.out hc.2.2)
      have HW2 := Lib.hid (HR.out.below HN2.out.2.2)
      have hne : b ≠ f := by have h1 := HN.out.1.lt_size; have h2 := hc.2.1; omega
      clear hc K HN
      go_wp2_with fail
      go_loopw [8, 9] (fun v i wr => ∃ (k : Nat) (cur : List Bool) (A' : Option Addr) (c' : Nat), i = .int .i64 k ∧ k ≤ st.length ∧ v = .slice A' cur.length c' ∧ cur.length ≤ 4096 ∧ Hid (SlB wr A' c' cur) ∧ Hid (Nw w cur b wr) ∧ Hid (Nw w l f wr)) (fun _ i _ => st.length - (intOf i).toNat)
      case atStart => exact ⟨0, l, A, c, rfl, Nat.zero_le _, rfl, by omega, HW2, HN2, HF⟩
      case round =>
        obtain ⟨k, cur, A', c', rfl, hk, rfl, hcl, HW, HNr, HFr⟩ := hrel
        clear HW2 HN2 HF
        by_cases hlt : k < st.length
        · obtain ⟨g, o, hC, hg, s0, s1, s2, s3, hok⟩ := HS.out.below HNr.out.2.2 k hlt
          subst hC
          have hi0 : (0 : Int) ≤ (k : Int) := Int.natCast_nonneg _
          have hi1 : (k : Int) < (st.length : Int) := by omega
          generalize st[k] = s at *
          --HEAD
          have HW1 : Hid (Stp (wr.alloc (.cells #[.int .u8 (s.kind : Int), .int .i64 s.at_, .int .i64 s.n, .int .i64 s.x] 42)) wr.heap.size s) := Lib.hid ⟨by rw [cell_of_row _ _ _ _ 42 (0, 0) (heap_alloc_new _ _)]; rfl, by rw [cell_of_row _ _ _ _ 42 (0, 0) (heap_alloc_new _ _)]; rfl, by rw [cell_of_row _ _ _ _ 42 (0, 0) (heap_alloc_new _ _)]; rfl, by rw [cell_of_row _ _ _ _ 42 (0, 0) (heap_alloc_new _ _)]; rfl⟩
          have HB1 : Hid (Below wr.heap.size wr (wr.alloc (.cells #[.int .u8 (s.kind : Int), .int .i64 s.at_, .int .i64 s.n, .int .i64 s.x] 42))) := Lib.hid ((Below.refl _ _).alloc (Nat.le_refl _) _)
          have K := Lib.hid (copy_any (Nw.below HNr.out HB1.out).1)
          go_wp2_with fail
          refine K.out.mono ?_
          rintro e w3 ⟨b1, rfl, hc⟩
          have HB3 : Hid (Below wr.heap.size wr w3) := Lib.hid (HB1.out.trans (hc.2.2.mono HB1.out.size))
          have HN3 := Lib.hid (Nw.below HNr.out HB3.out)
          have HF3 := Lib.hid (Nw.below HFr.out HB3.out)
          have HO3 := Lib.hid (HW.out.below HB3.out)
          have HC3 : Hid (Fl w3 b1 cur) := Lib.hid hc.1
          have HP3 : Hid (Stp w3 wr.heap.size s) := Lib.hid (HW1.out.below hc.2.2)
          have hbb1 : b1 ≠ b := by have h1 := HNr.out.1.lt_size; have h2 := hc.2.1; have h3 := HB1.out.size; omega
          have hpb : wr.heap.size ≠ b := by have h1 := HNr.out.1.lt_size; omega
          have hbw : w.heap.size ≤ b := HNr.out.2.1
          obtain ⟨r, hrk, hr4⟩ : ∃ r : Nat, (s.kind : Int) % 4 = (r : Int) ∧ r < 4 := ⟨s.kind % 4, by simp, Nat.mod_lt _ (by decide)⟩
          clear hc K HW1 HB1 HNr HFr HW HB3 s0 s1 s2 s3
          generalize wr.heap.size = p at *
          obtain ⟨q0, q1, q2, q3⟩ := HP3.out
          have ok1 := hok.a1
          have ok2 := hok.n1
          have ok3 := hok.k
          have ok4 := hok.x0
          have ok5 := hok.x1
          have ok6 := hok.a0
          have ok7 := hok.n0
          obtain ⟨kk, aa, nn, xx⟩ := s
          simp only at q0 q1 q2 q3 hrk ok1 ok2 ok3 ok4 ok5 ok6 ok7
          clear hok
          rcases (show r = 0 ∨ r = 1 ∨ r = 2 ∨ r = 3 by omega) with rfl | rfl | rfl | rfl
          · rcases (show (aa < 0 ∨ (cur.length : Int) < aa) ∨ ((0 ≤ aa ∧ aa ≤ cur.length) ∧ nn < 0) ∨ ((0 ≤ aa ∧ aa ≤ cur.length) ∧ 4096 - (cur.length : Int) < nn) ∨ ((0 ≤ aa ∧ aa ≤ cur.length) ∧ 0 ≤ nn ∧ nn ≤ 4096 - (cur.length : Int)) by omega) with h | h | h | h
            · skip
              have K1 := Lib.hid (fun v => refIns_bad (w := w3) (A := A') (c := c') (l := cur) aa nn v ok1 hcl (by omega))
              have K2 := Lib.hid (fun v => ins_out HN3.out.1 aa nn v ok1 h)
              go_wp2_with fail
              refine (K1.out _).mono ?_
              rintro e w' ⟨rfl, rfl⟩
              go_wp2_with fail
              refine (K2.out _).mono ?_
              rintro e w' ⟨rfl, rfl⟩
              clear K1 K2
              have S1 : Hid (Calls Tryd.prog 11 #[.pointer (some ⟨b, 0, none⟩), .slice A' (cur).length c'] w3 fun e w' => e = .returned (.bool true) ∧ ∃ k, w' = (w3).drewN k) := Lib.hid (same_any HN3.out.1 A' c' HO3.out.rd)
              have S2 : Hid (∀ k, Calls Tryd.prog 11 #[.pointer (some ⟨b1, 0, none⟩), .slice A' cur.length c'] ((w3).drewN k) fun e w' => e = .returned (.bool true) ∧ ∃ m, w' = ((w3).drewN k).drewN m) := Lib.hid fun k => same_any (HC3.out.drewN k) A' c' (HO3.out.drewN k).rd
              have hnl2 : (cur).length ≤ 4096 := HN3.out.1.le
              go_wp2_with fail
              refine S1.out.mono ?_
              rintro e w' ⟨rfl, m1, rfl⟩
              go_wp2_with fail
              refine (S2.out _).mono ?_
              rintro e w' ⟨rfl, m2, rfl⟩
              go_wp2_with fail
              go_roundw
              case rel => exact ⟨k + 1, cur, A', c', by go_num, by omega, rfl, hnl2, Lib.hid (HO3.out.drewN _), Lib.hid (Nw.drewN HN3.out _), Lib.hid (Nw.drewN HF3.out _)⟩
              case measure => simp [intOf]; omega
            · skip
              have K1 := Lib.hid (fun v => refIns_bad (w := w3) (A := A') (c := c') (l := cur) aa nn v ok1 hcl (by omega))
              have K2 := Lib.hid (fun v => ins_neg HN3.out.1 aa nn v h.1 h.2)
              go_wp2_with fail
              refine (K1.out _).mono ?_
              rintro e w' ⟨rfl, rfl⟩
              go_wp2_with fail
              refine (K2.out _).mono ?_
              rintro e w' ⟨rfl, rfl⟩
              clear K1 K2
              have S1 : Hid (Calls Tryd.prog 11 #[.pointer (some ⟨b, 0, none⟩), .slice A' (cur).length c'] w3 fun e w' => e = .returned (.bool true) ∧ ∃ k, w' = (w3).drewN k) := Lib.hid (same_any HN3.out.1 A' c' HO3.out.rd)
              have S2 : Hid (∀ k, Calls Tryd.prog 11 #[.pointer (some ⟨b1, 0, none⟩), .slice A' cur.length c'] ((w3).drewN k) fun e w' => e = .returned (.bool true) ∧ ∃ m, w' = ((w3).drewN k).drewN m) := Lib.hid fun k => same_any (HC3.out.drewN k) A' c' (HO3.out.drewN k).rd
              have hnl2 : (cur).length ≤ 4096 := HN3.out.1.le
              go_wp2_with fail
              refine S1.out.mono ?_
              rintro e w' ⟨rfl, m1, rfl⟩
              go_wp2_with fail
              refine (S2.out _).mono ?_
              rintro e w' ⟨rfl, m2, rfl⟩
              go_wp2_with fail
              go_roundw
              case rel => exact ⟨k + 1, cur, A', c', by go_num, by omega, rfl, hnl2, Lib.hid (HO3.out.drewN _), Lib.hid (Nw.drewN HN3.out _), Lib.hid (Nw.drewN HF3.out _)⟩
              case measure => simp [intOf]; omega
            · skip
              have K1 := Lib.hid (fun v => refIns_many (w := w3) (A := A') (c := c') (l := cur) aa nn v hcl h.1.1 h.1.2 h.2 ok2)
              have K2 := Lib.hid (fun v => ins_limit HN3.out.1 aa nn v h.1 h.2 ok2)
              go_wp2_with fail
              refine (K1.out _).mono ?_
              rintro e w' ⟨rfl, rfl⟩
              go_wp2_with fail
              refine (K2.out _).mono ?_
              rintro e w' ⟨rfl, rfl⟩
              clear K1 K2
              have S1 : Hid (Calls Tryd.prog 11 #[.pointer (some ⟨b, 0, none⟩), .slice A' (cur).length c'] w3 fun e w' => e = .returned (.bool true) ∧ ∃ k, w' = (w3).drewN k) := Lib.hid (same_any HN3.out.1 A' c' HO3.out.rd)
              have S2 : Hid (∀ k, Calls Tryd.prog 11 #[.pointer (some ⟨b1, 0, none⟩), .slice A' cur.length c'] ((w3).drewN k) fun e w' => e = .returned (.bool true) ∧ ∃ m, w' = ((w3).drewN k).drewN m) := Lib.hid fun k => same_any (HC3.out.drewN k) A' c' (HO3.out.drewN k).rd
              have hnl2 : (cur).length ≤ 4096 := HN3.out.1.le
              go_wp2_with fail
              refine S1.out.mono ?_
              rintro e w' ⟨rfl, m1, rfl⟩
              go_wp2_with fail
              refine (S2.out _).mono ?_
              rintro e w' ⟨rfl, m2, rfl⟩
              go_wp2_with fail
              go_roundw
              case rel => exact ⟨k + 1, cur, A', c', by go_num, by omega, rfl, hnl2, Lib.hid (HO3.out.drewN _), Lib.hid (Nw.drewN HN3.out _), Lib.hid (Nw.drewN HF3.out _)⟩
              case measure => simp [intOf]; omega
            · skip
              obtain ⟨i, rfl⟩ : ∃ i : Nat, aa = i := ⟨aa.toNat, by omega⟩
              obtain ⟨m, rfl⟩ : ∃ m : Nat, nn = m := ⟨nn.toNat, by omega⟩
              obtain ⟨vx, hvx⟩ : ∃ vx : Bool, (xx.tmod 2 != 0) = vx := ⟨_, rfl⟩
              have K1 := Lib.hid (refIns_ok HO3.out i m vx (by omega) (by omega))
              obtain ⟨nl, hnl⟩ : ∃ nl, insB cur i m vx = nl := ⟨_, rfl⟩
              rw [hnl] at K1
              go_wp2_with fail
              refine K1.out.mono ?_
              rintro e w4 ⟨v4, rfl, ho, hb⟩
              obtain ⟨A4, c4, rfl, hq⟩ := ho.slb
              have HQ4 := Lib.hid hq
              clear K1 ho hq
              have HN4 := Lib.hid (Nw.below HN3.out hb)
              have HF4 := Lib.hid (Nw.below HF3.out hb)
              have HO4 := Lib.hid (HO3.out.below hb)
              have HC4 : Hid (Fl w4 b1 cur) := Lib.hid (Below.raw hb HC3.out.lt_size HC3.out)
              have HP4 := Lib.hid (HP3.out.below hb)
              clear q0 q1 q2 q3
              obtain ⟨q0, q1, q2, q3⟩ := HP4.out
              simp only at q0 q1 q2 q3
              clear HN3 HF3 HO3 HC3 HP3
              have K2 : Hid (Calls Tryd.prog 22 #[.pointer (some ⟨b, 0, none⟩), .int .i64 i, .int .i64 m, .bool vx] w4 (Ch w4 b nl)) := Lib.hid (by rw [← hnl]; exact ins_in HN4.out.1 i m vx (by omega) (by omega))
              clear hb hnl
              go_wp2_with fail
              refine K2.out.mono ?_
              intro e w5 hc
              have HN5 := Lib.hid (Nw.ch HN4.out hc)
              have HF5 := Lib.hid (Nw.other HF4.out (Ne.symm hne) hbw hc)
              have HO5 := Lib.hid (SlB.ch HO4.out HN4.out.1 hc)
              have HC5 : Hid (Fl w5 b1 cur) := Lib.hid (HC4.out.heap (hc.2.2.block b1 HC4.out.lt_size hbb1))
              have HP5 := Lib.hid (HP4.out.heap (hc.2.2.block p HP4.out.lt hpb))
              clear q0 q1 q2 q3
              obtain ⟨q0, q1, q2, q3⟩ := HP5.out
              simp only at q0 q1 q2 q3
              have HQ5 := Lib.hid (SlB.ch HQ4.out HN4.out.1 hc)
              clear HN4 HF4 HO4 HC4 HP4
              obtain ⟨rfl, -⟩ := hc
              clear K2 HQ4
              have S1 : Hid (Calls Tryd.prog 11 #[.pointer (some ⟨b, 0, none⟩), .slice A4 (nl).length c4] w5 fun e w' => e = .returned (.bool true) ∧ ∃ k, w' = (w5).drewN k) := Lib.hid (same_any HN5.out.1 A4 c4 HQ5.out.rd)
              have S2 : Hid (∀ k, Calls Tryd.prog 11 #[.pointer (some ⟨b1, 0, none⟩), .slice A' cur.length c'] ((w5).drewN k) fun e w' => e = .returned (.bool true) ∧ ∃ m, w' = ((w5).drewN k).drewN m) := Lib.hid fun k => same_any (HC5.out.drewN k) A' c' (HO5.out.drewN k).rd
              have hnl2 : (nl).length ≤ 4096 := HN5.out.1.le
              go_wp2_with fail
              refine S1.out.mono ?_
              rintro e w' ⟨rfl, m1, rfl⟩
              go_wp2_with fail
              refine (S2.out _).mono ?_
              rintro e w' ⟨rfl, m2, rfl⟩
              go_wp2_with fail
              go_roundw
              case rel => exact ⟨k + 1, nl, A4, c4, by go_num, by omega, rfl, hnl2, Lib.hid (HQ5.out.drewN _), Lib.hid (Nw.drewN HN5.out _), Lib.hid (Nw.drewN HF5.out _)⟩
              case measure => simp [intOf]; omega
          · rcases (show (aa < 0 ∨ nn < 0 ∨ (cur.length : Int) - aa < nn) ∨ (0 ≤ aa ∧ 0 ≤ nn ∧ nn ≤ (cur.length : Int) - aa) by omega) with h | h
            · skip
              have K1 := Lib.hid (refRem_bad (w := w3) (A := A') (c := c') (l := cur) aa nn ok1 ok2 hcl h)
              have K2 := Lib.hid (rem_out HN3.out.1 aa nn ok1 h)
              go_wp2_with fail
              refine K1.out.mono ?_
              rintro e w' ⟨rfl, rfl⟩
              go_wp2_with fail
              refine K2.out.mono ?_
              rintro e w' ⟨rfl, rfl⟩
              clear K1 K2
              have S1 : Hid (Calls Tryd.prog 11 #[.pointer (some ⟨b, 0, none⟩), .slice A' (cur).length c'] w3 fun e w' => e = .returned (.bool true) ∧ ∃ k, w' = (w3).drewN k) := Lib.hid (same_any HN3.out.1 A' c' HO3.out.rd)
              have S2 : Hid (∀ k, Calls Tryd.prog 11 #[.pointer (some ⟨b1, 0, none⟩), .slice A' cur.length c'] ((w3).drewN k) fun e w' => e = .returned (.bool true) ∧ ∃ m, w' = ((w3).drewN k).drewN m) := Lib.hid fun k => same_any (HC3.out.drewN k) A' c' (HO3.out.drewN k).rd
              have hnl2 : (cur).length ≤ 4096 := HN3.out.1.le
              go_wp2_with fail
              refine S1.out.mono ?_
              rintro e w' ⟨rfl, m1, rfl⟩
              go_wp2_with fail
              refine (S2.out _).mono ?_
              rintro e w' ⟨rfl, m2, rfl⟩
              go_wp2_with fail
              go_roundw
              case rel => exact ⟨k + 1, cur, A', c', by go_num, by omega, rfl, hnl2, Lib.hid (HO3.out.drewN _), Lib.hid (Nw.drewN HN3.out _), Lib.hid (Nw.drewN HF3.out _)⟩
              case measure => simp [intOf]; omega
            · skip
              obtain ⟨i, rfl⟩ : ∃ i : Nat, aa = i := ⟨aa.toNat, by omega⟩
              obtain ⟨m, rfl⟩ : ∃ m : Nat, nn = m := ⟨nn.toNat, by omega⟩
              have K1 := Lib.hid (refRem_ok HO3.out i m (by omega) hcl)
              obtain ⟨nl, hnl⟩ : ∃ nl, remB cur i m = nl := ⟨_, rfl⟩
              rw [hnl] at K1
              go_wp2_with fail
              refine K1.out.mono ?_
              rintro e w4 ⟨v4, rfl, ho, hb⟩
              obtain ⟨A4, c4, rfl, hq⟩ := ho.slb
              have HQ4 := Lib.hid hq
              clear K1 ho hq
              have HN4 := Lib.hid (Nw.below HN3.out hb)
              have HF4 := Lib.hid (Nw.below HF3.out hb)
              have HO4 := Lib.hid (HO3.out.below hb)
              have HC4 : Hid (Fl w4 b1 cur) := Lib.hid (Below.raw hb HC3.out.lt_size HC3.out)
              have HP4 := Lib.hid (HP3.out.below hb)
              clear q0 q1 q2 q3
              obtain ⟨q0, q1, q2, q3⟩ := HP4.out
              simp only at q0 q1 q2 q3
              clear HN3 HF3 HO3 HC3 HP3
              have K2 : Hid (Calls Tryd.prog 24 #[.pointer (some ⟨b, 0, none⟩), .int .i64 i, .int .i64 m] w4 (Ch w4 b nl)) := Lib.hid (by rw [← hnl]; exact rem_in HN4.out.1 i m (by omega))
              clear hb hnl
              go_wp2_with fail
              refine K2.out.mono ?_
              intro e w5 hc
              have HN5 := Lib.hid (Nw.ch HN4.out hc)
              have HF5 := Lib.hid (Nw.other HF4.out (Ne.symm hne) hbw hc)
              have HO5 := Lib.hid (SlB.ch HO4.out HN4.out.1 hc)
              have HC5 : Hid (Fl w5 b1 cur) := Lib.hid (HC4.out.heap (hc.2.2.block b1 HC4.out.lt_size hbb1))
              have HP5 := Lib.hid (HP4.out.heap (hc.2.2.block p HP4.out.lt hpb))
              clear q0 q1 q2 q3
              obtain ⟨q0, q1, q2, q3⟩ := HP5.out
              simp only at q0 q1 q2 q3
              have HQ5 := Lib.hid (SlB.ch HQ4.out HN4.out.1 hc)
              clear HN4 HF4 HO4 HC4 HP4
              obtain ⟨rfl, -⟩ := hc
              clear K2 HQ4
              have S1 : Hid (Calls Tryd.prog 11 #[.pointer (some ⟨b, 0, none⟩), .slice A4 (nl).length c4] w5 fun e w' => e = .returned (.bool true) ∧ ∃ k, w' = (w5).drewN k) := Lib.hid (same_any HN5.out.1 A4 c4 HQ5.out.rd)
              have S2 : Hid (∀ k, Calls Tryd.prog 11 #[.pointer (some ⟨b1, 0, none⟩), .slice A' cur.length c'] ((w5).drewN k) fun e w' => e = .returned (.bool true) ∧ ∃ m, w' = ((w5).drewN k).drewN m) := Lib.hid fun k => same_any (HC5.out.drewN k) A' c' (HO5.out.drewN k).rd
              have hnl2 : (nl).length ≤ 4096 := HN5.out.1.le
              go_wp2_with fail
              refine S1.out.mono ?_
              rintro e w' ⟨rfl, m1, rfl⟩
              go_wp2_with fail
              refine (S2.out _).mono ?_
              rintro e w' ⟨rfl, m2, rfl⟩
              go_wp2_with fail
              go_roundw
              case rel => exact ⟨k + 1, nl, A4, c4, by go_num, by omega, rfl, hnl2, Lib.hid (HQ5.out.drewN _), Lib.hid (Nw.drewN HN5.out _), Lib.hid (Nw.drewN HF5.out _)⟩
              case measure => simp [intOf]; omega
          · rcases (show (aa < 0 ∨ nn < 0 ∨ (cur.length : Int) - aa < nn) ∨ ((0 ≤ aa ∧ 0 ≤ nn ∧ nn ≤ (cur.length : Int) - aa) ∧ (xx < 0 ∨ (cur.length : Int) - nn < xx)) ∨ ((0 ≤ aa ∧ 0 ≤ nn ∧ nn ≤ (cur.length : Int) - aa) ∧ 0 ≤ xx ∧ xx ≤ (cur.length : Int) - nn) by omega) with h | h | h
            · skip
              have K1 := Lib.hid (refMv_bad (w := w3) (A := A') (c := c') (l := cur) aa nn xx ok1 ok2 hcl h)
              have K2 := Lib.hid (mv_out HN3.out.1 aa nn xx ok1 h)
              go_wp2_with fail
              refine K1.out.mono ?_
              rintro e w' ⟨rfl, rfl⟩
              go_wp2_with fail
              refine K2.out.mono ?_
              rintro e w' ⟨rfl, rfl⟩
              clear K1 K2
              have S1 : Hid (Calls Tryd.prog 11 #[.pointer (some ⟨b, 0, none⟩), .slice A' (cur).length c'] w3 fun e w' => e = .returned (.bool true) ∧ ∃ k, w' = (w3).drewN k) := Lib.hid (same_any HN3.out.1 A' c' HO3.out.rd)
              have S2 : Hid (∀ k, Calls Tryd.prog 11 #[.pointer (some ⟨b1, 0, none⟩), .slice A' cur.length c'] ((w3).drewN k) fun e w' => e = .returned (.bool true) ∧ ∃ m, w' = ((w3).drewN k).drewN m) := Lib.hid fun k => same_any (HC3.out.drewN k) A' c' (HO3.out.drewN k).rd
              have hnl2 : (cur).length ≤ 4096 := HN3.out.1.le
              go_wp2_with fail
              refine S1.out.mono ?_
              rintro e w' ⟨rfl, m1, rfl⟩
              go_wp2_with fail
              refine (S2.out _).mono ?_
              rintro e w' ⟨rfl, m2, rfl⟩
              go_wp2_with fail
              go_roundw
              case rel => exact ⟨k + 1, cur, A', c', by go_num, by omega, rfl, hnl2, Lib.hid (HO3.out.drewN _), Lib.hid (Nw.drewN HN3.out _), Lib.hid (Nw.drewN HF3.out _)⟩
              case measure => simp [intOf]; omega
            · skip
              obtain ⟨i, rfl⟩ : ∃ i : Nat, aa = i := ⟨aa.toNat, by omega⟩
              obtain ⟨m, rfl⟩ : ∃ m : Nat, nn = m := ⟨nn.toNat, by omega⟩
              have K1 := Lib.hid (refMv_far HO3.out i m xx (by omega) hcl h.2)
              go_wp2_with fail
              refine K1.out.mono ?_
              rintro e w4 ⟨rfl, hb⟩
              clear K1
              have HN4 := Lib.hid (Nw.below HN3.out hb)
              have HF4 := Lib.hid (Nw.below HF3.out hb)
              have HO4 := Lib.hid (HO3.out.below hb)
              have HC4 : Hid (Fl w4 b1 cur) := Lib.hid (Below.raw hb HC3.out.lt_size HC3.out)
              have HP4 := Lib.hid (HP3.out.below hb)
              clear q0 q1 q2 q3
              obtain ⟨q0, q1, q2, q3⟩ := HP4.out
              simp only at q0 q1 q2 q3
              clear HN3 HF3 HO3 HC3 HP3
              have K2 := Lib.hid (mv_far HN4.out.1 i m xx (by omega) h.2)
              clear hb
              go_wp2_with fail
              refine K2.out.mono ?_
              rintro e w' ⟨rfl, rfl⟩
              clear K2
              have S1 : Hid (Calls Tryd.prog 11 #[.pointer (some ⟨b, 0, none⟩), .slice A' (cur).length c'] w4 fun e w' => e = .returned (.bool true) ∧ ∃ k, w' = (w4).drewN k) := Lib.hid (same_any HN4.out.1 A' c' HO4.out.rd)
              have S2 : Hid (∀ k, Calls Tryd.prog 11 #[.pointer (some ⟨b1, 0, none⟩), .slice A' cur.length c'] ((w4).drewN k) fun e w' => e = .returned (.bool true) ∧ ∃ m, w' = ((w4).drewN k).drewN m) := Lib.hid fun k => same_any (HC4.out.drewN k) A' c' (HO4.out.drewN k).rd
              have hnl2 : (cur).length ≤ 4096 := HN4.out.1.le
              go_wp2_with fail
              refine S1.out.mono ?_
              rintro e w' ⟨rfl, m1, rfl⟩
              go_wp2_with fail
              refine (S2.out _).mono ?_
              rintro e w' ⟨rfl, m2, rfl⟩
              go_wp2_with fail
              go_roundw
              case rel => exact ⟨k + 1, cur, A', c', by go_num, by omega, rfl, hnl2, Lib.hid (HO4.out.drewN _), Lib.hid (Nw.drewN HN4.out _), Lib.hid (Nw.drewN HF4.out _)⟩
              case measure => simp [intOf]; omega
            · skip
              obtain ⟨i, rfl⟩ : ∃ i : Nat, aa = i := ⟨aa.toNat, by omega⟩
              obtain ⟨m, rfl⟩ : ∃ m : Nat, nn = m := ⟨nn.toNat, by omega⟩
              obtain ⟨t, rfl⟩ : ∃ t : Nat, xx = t := ⟨xx.toNat, by omega⟩
              have K1 := Lib.hid (refMv_ok HO3.out i m t (by omega) hcl (by omega))
              obtain ⟨nl, hnl⟩ : ∃ nl, mvd cur i m t = nl := ⟨_, rfl⟩
              rw [hnl] at K1
              go_wp2_with fail
              refine K1.out.mono ?_
              rintro e w4 ⟨v4, rfl, ho, hb⟩
              obtain ⟨A4, c4, rfl, hq⟩ := ho.slb
              have HQ4 := Lib.hid hq
              clear K1 ho hq
              have HN4 := Lib.hid (Nw.below HN3.out hb)
              have HF4 := Lib.hid (Nw.below HF3.out hb)
              have HO4 := Lib.hid (HO3.out.below hb)
              have HC4 : Hid (Fl w4 b1 cur) := Lib.hid (Below.raw hb HC3.out.lt_size HC3.out)
              have HP4 := Lib.hid (HP3.out.below hb)
              clear q0 q1 q2 q3
              obtain ⟨q0, q1, q2, q3⟩ := HP4.out
              simp only at q0 q1 q2 q3
              clear HN3 HF3 HO3 HC3 HP3
              have K2 : Hid (Calls Tryd.prog 26 #[.pointer (some ⟨b, 0, none⟩), .int .i64 i, .int .i64 m, .int .i64 t] w4 (Ch w4 b nl)) := Lib.hid (by rw [← hnl]; exact mv_in HN4.out.1 i m t (by omega) (by omega))
              clear hb hnl
              go_wp2_with fail
              refine K2.out.mono ?_
              intro e w5 hc
              have HN5 := Lib.hid (Nw.ch HN4.out hc)
              have HF5 := Lib.hid (Nw.other HF4.out (Ne.symm hne) hbw hc)
              have HO5 := Lib.hid (SlB.ch HO4.out HN4.out.1 hc)
              have HC5 : Hid (Fl w5 b1 cur) := Lib.hid (HC4.out.heap (hc.2.2.block b1 HC4.out.lt_size hbb1))
              have HP5 := Lib.hid (HP4.out.heap (hc.2.2.block p HP4.out.lt hpb))
              clear q0 q1 q2 q3
              obtain ⟨q0, q1, q2, q3⟩ := HP5.out
              simp only at q0 q1 q2 q3
              have HQ5 := Lib.hid (SlB.ch HQ4.out HN4.out.1 hc)
              clear HN4 HF4 HO4 HC4 HP4
              obtain ⟨rfl, -⟩ := hc
              clear K2 HQ4
              have S1 : Hid (Calls Tryd.prog 11 #[.pointer (some ⟨b, 0, none⟩), .slice A4 (nl).length c4] w5 fun e w' => e = .returned (.bool true) ∧ ∃ k, w' = (w5).drewN k) := Lib.hid (same_any HN5.out.1 A4 c4 HQ5.out.rd)
              have S2 : Hid (∀ k, Calls Tryd.prog 11 #[.pointer (some ⟨b1, 0, none⟩), .slice A' cur.length c'] ((w5).drewN k) fun e w' => e = .returned (.bool true) ∧ ∃ m, w' = ((w5).drewN k).drewN m) := Lib.hid fun k => same_any (HC5.out.drewN k) A' c' (HO5.out.drewN k).rd
              have hnl2 : (nl).length ≤ 4096 := HN5.out.1.le
              go_wp2_with fail
              refine S1.out.mono ?_
              rintro e w' ⟨rfl, m1, rfl⟩
              go_wp2_with fail
              refine (S2.out _).mono ?_
              rintro e w' ⟨rfl, m2, rfl⟩
              go_wp2_with fail
              go_roundw
              case rel => exact ⟨k + 1, nl, A4, c4, by go_num, by omega, rfl, hnl2, Lib.hid (HQ5.out.drewN _), Lib.hid (Nw.drewN HN5.out _), Lib.hid (Nw.drewN HF5.out _)⟩
              case measure => simp [intOf]; omega
          · rcases (show (aa < 0 ∨ (cur.length : Int) ≤ aa) ∨ (0 ≤ aa ∧ aa < (cur.length : Int)) by omega) with h | h
            · skip
              have K2 := Lib.hid (fun v => set_out HN3.out.1 aa v ok1 h)
              go_wp2_with fail
              refine (K2.out _).mono ?_
              rintro e w' ⟨rfl, rfl⟩
              clear K2
              rcases (show aa < 0 ∨ (¬ (aa < 0) ∧ (cur.length : Int) ≤ aa) by omega) with h2 | h2
              · skip
                have S1 : Hid (Calls Tryd.prog 11 #[.pointer (some ⟨b, 0, none⟩), .slice A' (cur).length c'] w3 fun e w' => e = .returned (.bool true) ∧ ∃ k, w' = (w3).drewN k) := Lib.hid (same_any HN3.out.1 A' c' HO3.out.rd)
                have S2 : Hid (∀ k, Calls Tryd.prog 11 #[.pointer (some ⟨b1, 0, none⟩), .slice A' cur.length c'] ((w3).drewN k) fun e w' => e = .returned (.bool true) ∧ ∃ m, w' = ((w3).drewN k).drewN m) := Lib.hid fun k => same_any (HC3.out.drewN k) A' c' (HO3.out.drewN k).rd
                have hnl2 : (cur).length ≤ 4096 := HN3.out.1.le
                go_wp2_with fail
                refine S1.out.mono ?_
                rintro e w' ⟨rfl, m1, rfl⟩
                go_wp2_with fail
                refine (S2.out _).mono ?_
                rintro e w' ⟨rfl, m2, rfl⟩
                go_wp2_with fail
                go_roundw
                case rel => exact ⟨k + 1, cur, A', c', by go_num, by omega, rfl, hnl2, Lib.hid (HO3.out.drewN _), Lib.hid (Nw.drewN HN3.out _), Lib.hid (Nw.drewN HF3.out _)⟩
                case measure => simp [intOf]; omega
              · skip
                have S1 : Hid (Calls Tryd.prog 11 #[.pointer (some ⟨b, 0, none⟩), .slice A' (cur).length c'] w3 fun e w' => e = .returned (.bool true) ∧ ∃ k, w' = (w3).drewN k) := Lib.hid (same_any HN3.out.1 A' c' HO3.out.rd)
                have S2 : Hid (∀ k, Calls Tryd.prog 11 #[.pointer (some ⟨b1, 0, none⟩), .slice A' cur.length c'] ((w3).drewN k) fun e w' => e = .returned (.bool true) ∧ ∃ m, w' = ((w3).drewN k).drewN m) := Lib.hid fun k => same_any (HC3.out.drewN k) A' c' (HO3.out.drewN k).rd
                have hnl2 : (cur).length ≤ 4096 := HN3.out.1.le
                go_wp2_with fail
                refine S1.out.mono ?_
                rintro e w' ⟨rfl, m1, rfl⟩
                go_wp2_with fail
                refine (S2.out _).mono ?_
                rintro e w' ⟨rfl, m2, rfl⟩
                go_wp2_with fail
                go_roundw
                case rel => exact ⟨k + 1, cur, A', c', by go_num, by omega, rfl, hnl2, Lib.hid (HO3.out.drewN _), Lib.hid (Nw.drewN HN3.out _), Lib.hid (Nw.drewN HF3.out _)⟩
                case measure => simp [intOf]; omega
            · skip
              obtain ⟨i, rfl⟩ : ∃ i : Nat, aa = i := ⟨aa.toNat, by omega⟩
              obtain ⟨vx, hvx⟩ : ∃ vx : Bool, (xx.tmod 2 != 0) = vx := ⟨_, rfl⟩
              have hil : i < cur.length := by omega
              have K2 := Lib.hid (set_in HN3.out.1 i vx hil)
              go_wp2_with fail
              refine K2.out.mono ?_
              intro e w4 hc
              have HN4 := Lib.hid (Nw.ch HN3.out hc)
              have HF4 := Lib.hid (Nw.other HF3.out (Ne.symm hne) hbw hc)
              have HO4 := Lib.hid (SlB.ch HO3.out HN3.out.1 hc)
              have HC4 : Hid (Fl w4 b1 cur) := Lib.hid (HC3.out.heap (hc.2.2.block b1 HC3.out.lt_size hbb1))
              have HP4 := Lib.hid (HP3.out.heap (hc.2.2.block p HP3.out.lt hpb))
              clear q0 q1 q2 q3
              obtain ⟨q0, q1, q2, q3⟩ := HP4.out
              simp only at q0 q1 q2 q3
              clear HN3 HF3 HO3 HC3 HP3
              obtain ⟨rfl, -⟩ := hc
              clear K2
              have HMo := Lib.hid (made0 w4)
              have HB1 : Hid (Below w4.heap.size w4 (w4.alloc (.cells #[] 4))) := Lib.hid ((Below.refl _ _).alloc (Nat.le_refl _) _)
              have HX : Hid (Src (w4.alloc (.cells #[] 4)) A' cur.length c' cur) := Lib.hid (by
                have := (HO4.out.below HB1.out).head cur.length (Nat.le_refl _)
                rw [List.take_length] at this
                exact this)
              have hz : w4.heap.size ≤ (w4.alloc (.cells #[] 4)).heap.size := HB1.out.size
              go_wp2_with (
                at_builtin
                refine wp_app rfl (.tmp 134) (.tmp 135) rfl w4.heap.size _ [] rfl A' cur.length c' cur rfl HMo.out HX.out (by simp; omega) hz ?_
                intro v5 w5 H5 F5
                have HB5 := Lib.hid (HB1.out.trans F5.out)
                have H5' : Hid (OwnB w5 w4.heap.size v5 cur) := Lib.hid (by have := H5.out; rwa [List.nil_append] at this)
                obtain ⟨g5, cap5, rfl⟩ : ∃ g cap, v5 = .slice (some ⟨g, 0, none⟩) cur.length cap := by
                  obtain ⟨g, cap, h, _⟩ := World.ownsRow.form H5'.out (by omega)
                  exact ⟨g, cap, h⟩
                have n0 : w5.cell? ⟨g5, i, none⟩ = some (.bool cur[i]) := by
                  have := World.ownsRow.cellAt (w := w5) H5'.out i (by omega)
                  rw [this]
                  simp [bl, hil]
                have n1 : w5.frozen? ⟨g5, i, none⟩ = false := World.ownsRow.frozenAt (w := w5) H5'.out i
                have hg5 : w4.heap.size ≤ g5 := (World.ownsRow.lt H5'.out g5 rfl).1
                have HP5 := Lib.hid (HP4.out.below HB5.out)
                clear q0 q1 q2 q3
                obtain ⟨q0, q1, q2, q3⟩ := HP5.out
                simp only at q0 q1 q2 q3)
              have HW6 : Hid (SlB (w5.setCell ⟨g5, i, none⟩ (.bool vx)) (some ⟨g5, 0, none⟩) cap5 (cur.set i vx)) := Lib.hid (by
                have hst := (World.ownsRow.stored (w := w5) H5'.out i (.bool vx)).1
                have ho : OwnB (w5.setCell ⟨g5, i, none⟩ (.bool vx)) w4.heap.size (.slice (some ⟨g5, 0, none⟩) cur.length cap5) (cur.set i vx) := by
                  unfold OwnB
                  rw [List.length_set]
                  have e : bl (cur.set i vx) = (bl cur).set i (.bool vx) := by simp [bl, List.map_set]
                  rw [e]
                  exact hst
                obtain ⟨A6, c6, hv, hs6⟩ := ho.slb
                injection hv with e1 e2 e3
                subst e1
                subst e3
                exact hs6)
              have HB6 : Hid (Below w4.heap.size w4 (w5.setCell ⟨g5, i, none⟩ (.bool vx))) := Lib.hid (HB5.out.setCell hg5 _)
              have hle6 : (cur.set i vx).length = cur.length := List.length_set
              generalize w5.setCell ⟨g5, i, none⟩ (.bool vx) = w6 at *
              have HN6 := Lib.hid (Nw.below HN4.out HB6.out)
              have HF6 := Lib.hid (Nw.below HF4.out HB6.out)
              have HO6 := Lib.hid (HO4.out.below HB6.out)
              have HC6 : Hid (Fl w6 b1 cur) := Lib.hid (Below.raw HB6.out HC4.out.lt_size HC4.out)
              clear HN4 HF4 HO4 HC4 HB5 HB6 H5' H5 F5 HX HMo HB1 n0 n1
              generalize cur.set i vx = nl at *
              have S1 : Hid (Calls Tryd.prog 11 #[.pointer (some ⟨b, 0, none⟩), .slice (some ⟨g5, 0, none⟩) cur.length cap5] w6 fun e w' => e = .returned (.bool true) ∧ ∃ k, w' = w6.drewN k) := Lib.hid (by rw [← hle6]; exact same_any HN6.out.1 (some ⟨g5, 0, none⟩) cap5 HW6.out.rd)
              have S2 : Hid (∀ k, Calls Tryd.prog 11 #[.pointer (some ⟨b1, 0, none⟩), .slice A' cur.length c'] (w6.drewN k) fun e w' => e = .returned (.bool true) ∧ ∃ m, w' = (w6.drewN k).drewN m) := Lib.hid fun k => same_any (HC6.out.drewN k) A' c' (HO6.out.drewN k).rd
              refine S1.out.mono ?_
              rintro e w' ⟨rfl, m1, rfl⟩
              go_wp2_with fail
              refine (S2.out _).mono ?_
              rintro e w' ⟨rfl, m2, rfl⟩
              go_wp2_with fail
              go_roundw
              case rel => exact ⟨k + 1, nl, some ⟨g5, 0, none⟩, cap5, by go_num, by omega, by rw [hle6], by omega, Lib.hid (HW6.out.drewN _), Lib.hid (Nw.drewN HN6.out _), Lib.hid (Nw.drewN HF6.out _)⟩
              case measure => simp [intOf]; omega
        · obtain rfl : k = st.length := by omega
          have S1 := Lib.hid (same_any HFr.out.1 A c (HR.out.below HNr.out.2.2).rd)
          have KL := lives_nw HNr.out HT.out h0
          go_wp2_with fail
          refine S1.out.mono ?_
          rintro e w' ⟨rfl, m1, rfl⟩
          go_wp2_with fail
          refine (KL.out _).mono ?_
          rintro e w' ⟨rfl, hb⟩
          have HB := Lib.hid hb
          clear hb
          go_wp2_with fail
          go_ret
          exact ⟨rfl, HB.out⟩
    · have KL := Lib.hid (lives_any w HT.out h0)
      go_enter Tryd.func5, Tryd.ntmps5
      go_wp2_with fail
      refine KL.out.mono ?_
      rintro e w' ⟨rfl, hb⟩
      have HB := Lib.hid hb
      clear hb
      go_wp2_with fail
      go_ret
      exact ⟨rfl, HB.out⟩
  · have KL := Lib.hid (lives_any w HT.out h0)
    go_enter Tryd.func5, Tryd.ntmps5
    go_wp2_with fail
    refine KL.out.mono ?_
    rintro e w' ⟨rfl, hb⟩
    have HB := Lib.hid hb
    clear hb
    go_wp2_with fail
    go_ret
    exact ⟨rfl, HB.out⟩
end Go.Proofs.YtbdjpacmbaoaeaaDoor
