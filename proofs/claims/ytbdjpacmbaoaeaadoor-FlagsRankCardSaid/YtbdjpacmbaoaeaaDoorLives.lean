/- The walk of lives: the chapter's examples hold. -/
import Derived.Test.YtbdjpacmbaoaeaaDoorLvAux
namespace Go.Proofs.YtbdjpacmbaoaeaaDoor
open Go.RowKit S

def LivesOk : Prop := ∀ w : World, Tab w → 0 < w.heap.size → Calls Tryd.prog 9 #[] w fun e w' => e = .returned (.bool true) ∧ Below w.heap.size w w'
set_option maxRecDepth 100000 in
set_option maxHeartbeats 4000000 in
theorem lives_any : LivesOk := by
  intro w hT h0
  have HT := Lib.hid hT
  have HK : Hid (Calls Tryd.prog 33 #[.slice (some ⟨w.heap.size, 0, none⟩) 5 5] (w.alloc (.cells #[.int .i64 0, .int .i64 1, .int .i64 1, .int .i64 0, .int .i64 1] 3)) fun e w' => ∃ B d, e = .returned (.slice B 5 d) ∧ RdB w' w'.heap.size B [false, true, true, false, true] ∧ Below w.heap.size w w') := Lib.hid (bits_lit [0, 1, 1, 0, 1] w (by decide))
  clear hT
  go_enter Tryd.func9, Tryd.ntmps9
  go_wp2_with fail
  refine HK.out.mono ?_
  rintro e w1 ⟨B, d, rfl, hr, hb⟩
  have HB1 := Lib.hid hb
  have HK2 : Hid (Calls Tryd.prog 10 #[.slice B 5 d] w1 fun e w' => ∃ b, e = .returned (.tuple #[.pointer (some ⟨b, 0, none⟩), .bool true]) ∧ Nw w1 [false, true, true, false, true] b w') := Lib.hid (made_any B d [false, true, true, false, true] w1 hr (by decide))
  clear hr hb HK
  go_wp2_with fail
  refine HK2.out.mono ?_
  rintro e w2 ⟨b, rfl, hn⟩
  have HN : Hid (Nw w [false, true, true, false, true] b w2) := Lib.hid (Nw.more HB1.out hn)
  clear hn HK2
  have K1 : Hid (∀ k, Calls Tryd.prog 12 #[.pointer (some ⟨b, 0, none⟩), .int .i64 2] (w2.drewN k) fun e w' => e = .returned (.tuple #[.int .i64 1, .int .i64 0]) ∧ ∃ m, w' = (w2.drewN k).drewN m) := Lib.hid fun k => rank_in (HN.out.drewN k).1 2 (by decide)
  have K2 : Hid (∀ k, Calls Tryd.prog 12 #[.pointer (some ⟨b, 0, none⟩), .int .i64 5] (w2.drewN k) fun e w' => e = .returned (.tuple #[.int .i64 3, .int .i64 0]) ∧ ∃ m, w' = (w2.drewN k).drewN m) := Lib.hid fun k => rank_in (HN.out.drewN k).1 5 (by decide)
  have K3 : Hid (∀ k, Calls Tryd.prog 14 #[.pointer (some ⟨b, 0, none⟩), .int .i64 0] (w2.drewN k) fun e w' => e = .returned (.tuple #[.int .i64 1, .int .i64 0]) ∧ ∃ m, w' = (w2.drewN k).drewN m) := Lib.hid fun k => sel_any (HN.out.drewN k).1 ((HN.out.drewN k).tab HT.out h0) 0 (by decide)
  have K4 : Hid (∀ k, Calls Tryd.prog 14 #[.pointer (some ⟨b, 0, none⟩), .int .i64 2] (w2.drewN k) fun e w' => e = .returned (.tuple #[.int .i64 4, .int .i64 0]) ∧ ∃ m, w' = (w2.drewN k).drewN m) := Lib.hid fun k => sel_any (HN.out.drewN k).1 ((HN.out.drewN k).tab HT.out h0) 2 (by decide)
  have K5 : Hid (∀ k, Calls Tryd.prog 14 #[.pointer (some ⟨b, 0, none⟩), .int .i64 3] (w2.drewN k) fun e w' => e = .returned (.tuple #[.int .i64 0, .int .i64 11]) ∧ ∃ m, w' = (w2.drewN k).drewN m) := Lib.hid fun k => sel_any (HN.out.drewN k).1 ((HN.out.drewN k).tab HT.out h0) 3 (by decide)
  have K6 : Hid (∀ k, Calls Tryd.prog 15 #[.pointer (some ⟨b, 0, none⟩)] (w2.drewN k) fun e w' => e = .returned (.int .i64 3) ∧ ∃ m, w' = (w2.drewN k).drewN m) := Lib.hid fun k => count_any (HN.out.drewN k).1
  go_wp2_with fail
  refine (K1.out 0).mono ?_
  rintro e w' ⟨rfl, k1, rfl⟩
  go_wp2_with fail
  refine (K2.out _).mono ?_
  rintro e w' ⟨rfl, k2, rfl⟩
  go_wp2_with fail
  refine (K3.out _).mono ?_
  rintro e w' ⟨rfl, k3, rfl⟩
  go_wp2_with fail
  refine (K4.out _).mono ?_
  rintro e w' ⟨rfl, k4, rfl⟩
  go_wp2_with fail
  refine (K5.out _).mono ?_
  rintro e w' ⟨rfl, k5, rfl⟩
  go_wp2_with fail
  refine (K6.out _).mono ?_
  rintro e w' ⟨rfl, k6, rfl⟩
  clear K1 K2 K3 K4 K5 K6
  have N1 : Hid (∀ k, Calls Tryd.prog 16 #[.pointer (some ⟨b, 0, none⟩), .int .i64 0, .bool true] (w2.drewN k) fun e w' => e = .returned (.tuple #[.int .i64 1, .int .i64 0]) ∧ w2.drewN k = w') := Lib.hid fun k => next_is (HN.out.drewN k).1 ((HN.out.drewN k).tab HT.out h0) 0 (by decide) true (some 1) (IsNx.dec (by decide))
  have N2 : Hid (∀ k, Calls Tryd.prog 16 #[.pointer (some ⟨b, 0, none⟩), .int .i64 3, .bool true] (w2.drewN k) fun e w' => e = .returned (.tuple #[.int .i64 4, .int .i64 0]) ∧ w2.drewN k = w') := Lib.hid fun k => next_is (HN.out.drewN k).1 ((HN.out.drewN k).tab HT.out h0) 3 (by decide) true (some 4) (IsNx.dec (by decide))
  have N3 : Hid (∀ k, Calls Tryd.prog 16 #[.pointer (some ⟨b, 0, none⟩), .int .i64 1, .bool false] (w2.drewN k) fun e w' => e = .returned (.tuple #[.int .i64 3, .int .i64 0]) ∧ w2.drewN k = w') := Lib.hid fun k => next_is (HN.out.drewN k).1 ((HN.out.drewN k).tab HT.out h0) 1 (by decide) false (some 3) (IsNx.dec (by decide))
  have N4 : Hid (∀ k, Calls Tryd.prog 16 #[.pointer (some ⟨b, 0, none⟩), .int .i64 5, .bool false] (w2.drewN k) fun e w' => e = .returned (.tuple #[.int .i64 0, .int .i64 11]) ∧ w2.drewN k = w') := Lib.hid fun k => next_is (HN.out.drewN k).1 ((HN.out.drewN k).tab HT.out h0) 5 (by decide) false (none) (fun q h1 h2 => absurd h2 (Nat.not_lt.2 h1))
  have KC : Hid (∀ k, Calls Tryd.prog 20 #[.pointer (some ⟨b, 0, none⟩)] (w2.drewN k) fun e w' => ∃ c, e = .returned (.pointer (some ⟨c, 0, none⟩)) ∧ Nw (w2.drewN k) [false, true, true, false, true] c w') := Lib.hid fun k => copy_any (HN.out.drewN k).1
  go_wp2_with fail
  refine (N1.out _).mono ?_
  rintro e w' ⟨rfl, rfl⟩
  go_wp2_with fail
  refine (N2.out _).mono ?_
  rintro e w' ⟨rfl, rfl⟩
  go_wp2_with fail
  refine (N3.out _).mono ?_
  rintro e w' ⟨rfl, rfl⟩
  go_wp2_with fail
  refine (N4.out _).mono ?_
  rintro e w' ⟨rfl, rfl⟩
  clear N1 N2 N3 N4
  go_wp2_with fail
  refine (KC.out _).mono ?_
  rintro e w3 ⟨c, rfl, hc⟩
  have HC : Hid (Nw w [false, true, true, false, true] c w3) := Lib.hid (Nw.more (HN.out.drewN _).2.2 hc)
  have HN3 : Hid (Nw w [false, true, true, false, true] b w3) := Lib.hid ((HN.out.drewN _).below hc.2.2)
  have hne : Hid (b ≠ c) := Lib.hid (by have h1 := (HN.out.drewN (k1 + k2 + k3 + k4 + k5 + k6)).1.lt_size; have h2 := hc.2.1; omega)
  clear hc KC HN
  have KI : Hid (∀ k, Calls Tryd.prog 22 #[.pointer (some ⟨b, 0, none⟩), .int .i64 1, .int .i64 2, .bool true] (w3.drewN k) (Ch (w3.drewN k) b [false, true, true, true, true, false, true])) := Lib.hid fun k => ins_in (HN3.out.drewN k).1 1 2 true (by decide) (by decide)
  go_wp2_with fail
  refine (KI.out 0).mono ?_
  intro e w4 hc
  have HN4 := Lib.hid (Nw.ch (HN3.out.drewN 0) hc)
  have HC4 := Lib.hid (Nw.other (HC.out.drewN 0) (Ne.symm hne.out) HN3.out.2.1 hc)
  obtain ⟨rfl, -⟩ := hc
  clear HN3 HC KI
  have KB : Hid (Calls Tryd.prog 33 #[.slice (some ⟨w4.heap.size, 0, none⟩) 7 7] (w4.alloc (.cells #[.int .i64 0, .int .i64 1, .int .i64 1, .int .i64 1, .int .i64 1, .int .i64 0, .int .i64 1] 3)) fun e w' => ∃ B d, e = .returned (.slice B 7 d) ∧ RdB w' w'.heap.size B [false, true, true, true, true, false, true] ∧ Below w4.heap.size w4 w') := Lib.hid (bits_lit [0, 1, 1, 1, 1, 0, 1] w4 (by decide))
  go_wp2_with fail
  refine KB.out.mono ?_
  rintro e w5 ⟨B5, d5, rfl, hr, hb⟩
  have HN5 : Hid (Nw w [false, true, true, true, true, false, true] b w5) := Lib.hid (Nw.below HN4.out hb)
  have HC5 : Hid (Nw w [false, true, true, false, true] c w5) := Lib.hid (Nw.below HC4.out hb)
  have KS : Hid (Calls Tryd.prog 11 #[.pointer (some ⟨b, 0, none⟩), .slice B5 7 d5] w5 fun e w' => e = .returned (.bool true) ∧ ∃ k, w' = w5.drewN k) := Lib.hid (same_any HN5.out.1 B5 d5 hr)
  have KR : Hid (∀ k, Calls Tryd.prog 24 #[.pointer (some ⟨b, 0, none⟩), .int .i64 0, .int .i64 4] (w5.drewN k) (Ch (w5.drewN k) b [true, false, true])) := Lib.hid fun k => rem_in (HN5.out.drewN k).1 0 4 (by decide)
  clear hr hb KB HN4 HC4
  go_wp2_with fail
  refine KS.out.mono ?_
  rintro e w' ⟨rfl, m1, rfl⟩
  go_wp2_with fail
  refine (KR.out _).mono ?_
  intro e w6 hc
  have HN6 := Lib.hid (Nw.ch (HN5.out.drewN _) hc)
  have HC6 := Lib.hid (Nw.other (HC5.out.drewN _) (Ne.symm hne.out) HN5.out.2.1 hc)
  obtain ⟨rfl, -⟩ := hc
  clear KS KR HN5 HC5
  have KB : Hid (Calls Tryd.prog 33 #[.slice (some ⟨w6.heap.size, 0, none⟩) 3 3] (w6.alloc (.cells #[.int .i64 1, .int .i64 0, .int .i64 1] 3)) fun e w' => ∃ B d, e = .returned (.slice B 3 d) ∧ RdB w' w'.heap.size B [true, false, true] ∧ Below w6.heap.size w6 w') := Lib.hid (bits_lit [1, 0, 1] w6 (by decide))
  go_wp2_with fail
  refine KB.out.mono ?_
  rintro e w7 ⟨B7, d7, rfl, hr, hb⟩
  have HN7 : Hid (Nw w [true, false, true] b w7) := Lib.hid (Nw.below HN6.out hb)
  have HC7 : Hid (Nw w [false, true, true, false, true] c w7) := Lib.hid (Nw.below HC6.out hb)
  have KS : Hid (Calls Tryd.prog 11 #[.pointer (some ⟨b, 0, none⟩), .slice B7 3 d7] w7 fun e w' => e = .returned (.bool true) ∧ ∃ k, w' = w7.drewN k) := Lib.hid (same_any HN7.out.1 B7 d7 hr)
  have KM : Hid (∀ k, Calls Tryd.prog 26 #[.pointer (some ⟨c, 0, none⟩), .int .i64 1, .int .i64 2, .int .i64 3] (w7.drewN k) (Ch (w7.drewN k) c [false, false, true, true, true])) := Lib.hid fun k => mv_in (HC7.out.drewN k).1 1 2 3 (by decide) (by decide)
  clear hr hb KB HN6 HC6
  go_wp2_with fail
  refine KS.out.mono ?_
  rintro e w' ⟨rfl, m2, rfl⟩
  go_wp2_with fail
  refine (KM.out _).mono ?_
  intro e w8 hc
  have HC8 := Lib.hid (Nw.ch (HC7.out.drewN _) hc)
  obtain ⟨rfl, -⟩ := hc
  clear KS KM HN7 HC7
  have KP := Lib.hid (spans_any HC8.out.1 (HC8.out.tab HT.out h0) (Nat.lt_of_lt_of_le h0 HC8.out.2.2.size))
  go_wp2_with fail
  refine KP.out.mono ?_
  rintro e w9 ⟨A, L, rfl, hk, hrd, hb⟩
  obtain rfl : L = [((2 : Int), (5 : Int))] := mk_one hk mk25
  have HC9 := Lib.hid (Nw.below HC8.out hb)
  obtain ⟨g, o, rfl, hg, c1, c2⟩ := hrd 0 (by decide)
  have C1 : Hid (w9.cell? ⟨g, o + 0 * 2, none⟩ = some (.int .i64 2)) := Lib.hid c1
  have C2 : Hid (w9.cell? ⟨g, o + 0 * 2 + 1, none⟩ = some (.int .i64 5)) := Lib.hid c2
  clear hk hrd hb KP HC8 c1 c2
  have KN : Hid (Calls Tryd.prog 32 #[.int .i64 (-1)] w9 fun e w' => e = .returned (.tuple #[.pointer none, .int .i64 4]) ∧ Below w9.heap.size w9 w') := Lib.hid (new_bad (-1) 4 (.inl ⟨by decide, rfl⟩) (by decide) w9)
  go_wp2_with fail
  refine KN.out.mono ?_
  rintro e w10 ⟨rfl, hb⟩
  have HB10 := Lib.hid hb
  have HC10 := Lib.hid (Nw.below HC9.out hb)
  clear hb KN HC9
  have KN : Hid (Calls Tryd.prog 32 #[.int .i64 4097] w10 fun e w' => e = .returned (.tuple #[.pointer none, .int .i64 3]) ∧ Below w10.heap.size w10 w') := Lib.hid (new_bad 4097 3 (.inr ⟨by decide, rfl⟩) (by decide) w10)
  go_wp2_with fail
  refine KN.out.mono ?_
  rintro e w11 ⟨rfl, hb⟩
  have HB11 : Hid (Below w9.heap.size w9 w11) := Lib.hid (HB10.out.trans (hb.mono HB10.out.size))
  have HC11 := Lib.hid (Nw.below HC10.out hb)
  clear hb KN HC10 HB10
  have KG : Hid (Calls Tryd.prog 18 #[.pointer (some ⟨c, 0, none⟩), .int .i64 5] w11 fun e w' => e = .returned (.tuple #[.bool false, .int .i64 4]) ∧ w11 = w') := Lib.hid (get_out HC11.out.1 5 (by decide) (.inr (by decide)))
  go_wp2_with fail
  refine KG.out.mono ?_
  rintro e w' ⟨rfl, rfl⟩
  have KB : Hid (Calls Tryd.prog 33 #[.slice (some ⟨w11.heap.size, 0, none⟩) 5 5] (w11.alloc (.cells #[.int .i64 0, .int .i64 0, .int .i64 1, .int .i64 1, .int .i64 1] 3)) fun e w' => ∃ B d, e = .returned (.slice B 5 d) ∧ RdB w' w'.heap.size B [false, false, true, true, true] ∧ Below w11.heap.size w11 w') := Lib.hid (bits_lit [0, 0, 1, 1, 1] w11 (by decide))
  go_wp2_with fail
  refine KB.out.mono ?_
  rintro e w12 ⟨B12, d12, rfl, hr, hb⟩
  have HC12 : Hid (Nw w [false, false, true, true, true] c w12) := Lib.hid (Nw.below HC11.out hb)
  have HB12 : Hid (Below w9.heap.size w9 w12) := Lib.hid (HB11.out.trans (hb.mono HB11.out.size))
  have c1 : w12.cell? ⟨g, o + 0 * 2, none⟩ = some (.int .i64 2) := (HB12.out.cell hg).trans C1.out
  have c2 : w12.cell? ⟨g, o + 0 * 2 + 1, none⟩ = some (.int .i64 5) := (HB12.out.cell hg).trans C2.out
  rw [Nat.zero_mul, Nat.add_zero] at c1 c2
  have KS : Hid (Calls Tryd.prog 11 #[.pointer (some ⟨c, 0, none⟩), .slice B12 5 d12] w12 fun e w' => e = .returned (.bool true) ∧ ∃ k, w' = w12.drewN k) := Lib.hid (same_any HC12.out.1 B12 d12 hr)
  clear hr hb KB HB12 HB11 C1 C2 HC11
  go_wp2_with fail
  refine KS.out.mono ?_
  rintro e w' ⟨rfl, m3, rfl⟩
  go_wp2_with fail
  go_ret
  exact ⟨rfl, (HC12.out.drewN _).2.2⟩
end Go.Proofs.YtbdjpacmbaoaeaaDoor
