/- The walk of the law SizesUnknown. -/
import Derived.Test.YtdejdnkkbpmmlaaMLives
import Derived.Test.YtdejdnkkbpmmlaaMOfW
namespace Go.Proofs.Ytdejdnkkbpmmlaa
open Go.RowKit

/-- the memory of a law: its rows, its index -/
structure LI (w U : World) (g : Nat) (RA : Option Addr) (r : List (Int × Bool)) (t : T) (p A : Option Addr) (c : Nat) (xs : List S.Sp) : Prop where
  vx : Vx w U g r t p A c xs
  rd : RdR U U.heap.size RA r
theorem LI.next {w U U' : World} {g : Nat} {RA : Option Addr} {r : List (Int × Bool)} {t : T} {p A : Option Addr} {c : Nat} {xs : List S.Sp} (h : LI w U g RA r t p A c xs) (kk : Below U.heap.size U U') : LI w U' g RA r t p A c xs := ⟨h.vx.next kk, h.rd.next kk⟩
theorem LI.lit {w U : World} {g : Nat} {RA : Option Addr} {r : List (Int × Bool)} {t : T} {p A : Option Addr} {c : Nat} {xs : List S.Sp} (h : LI w U g RA r t p A c xs) (o : Obj) : LI w (U.alloc o) g RA r t p A c xs := h.next (below_new _ _)
theorem LI.same {w U : World} {g : Nat} {RA : Option Addr} {r : List (Int × Bool)} {t : T} {p A : Option Addr} {c : Nat} {xs : List S.Sp} (h : LI w U g RA r t p A c xs) (f : Int) (d : Nat) :
    Calls Try.prog 10 #[.agg #[.int .i64 t.count, .int .i64 t.total, .int .i64 t.depth, .pointer p, .slice A xs.length c], .int .i64 f, .slice RA r.length d, .int .i64 f] U fun e w' => e = .returned (.bool true) ∧ Below U.heap.size U w' := same_any h.vx.ix h.rd f

set_option maxRecDepth 100000 in
set_option maxHeartbeats 8000000 in
theorem law4_any (A0 : Option Addr) (c0 : Nat) (us : List Nat) (gr : Bool) (a b : Int) (w : World) (hr : RdU w w.heap.size A0 us) (hlc : us.length ≤ c0) (hm : c0 ≤ 9223372036854775807) :
    Calls Try.prog 4 #[.agg #[.slice A0 us.length c0, .bool gr], .int .i64 a, .int .i64 b] w fun e w' => e = .returned (.bool true) ∧ Below w.heap.size w w' := by
  have hb0 := below_new w (.cells #[.slice A0 us.length c0, .bool gr] 24)
  have hu1 : RdU (w.alloc (.cells #[.slice A0 us.length c0, .bool gr] 24)) (w.alloc (.cells #[.slice A0 us.length c0, .bool gr] 24)).heap.size A0 us := fun k hk => by
    obtain ⟨b, o, e, h1, h2, h3⟩ := hr.below hb0 k hk
    exact ⟨b, o, e, Nat.lt_of_lt_of_le h1 hb0.size, h2, h3⟩
  have HRW := Lib.hid (rows_loop A0 c0 us gr _ hu1 hlc hm)
  have HOF := Lib.hid (show ∀ U, Below (w.alloc (.cells #[.slice A0 us.length c0, .bool gr] 24)).heap.size (w.alloc (.cells #[.slice A0 us.length c0, .bool gr] 24)) U → Calls Try.prog 9 #[.agg #[.slice A0 us.length c0, .bool gr]] U _ from fun U kk => of_loop A0 c0 us gr U (fun k hk => by
    obtain ⟨b, o, e, h1, h2, h3⟩ := hu1.below kk k hk
    exact ⟨b, o, e, Nat.lt_of_lt_of_le h1 kk.size, h2, h3⟩) hlc hm)
  have hh := heap_alloc_new w (.cells #[.slice A0 us.length c0, .bool gr] 24)
  have HH := Lib.hid hh
  have HB := Lib.hid hb0
  have HLN := Lib.hid (rof_vr us gr).len
  have y0 := cell_of_row _ w.heap.size 0 _ 24 (0, 0) hh
  have y1 := cell_of_row _ w.heap.size 1 _ 24 (0, 0) hh
  clear hr hb0 hu1 hlc hm hh
  generalize rof us gr = r at *
  go_enter Try.func4, Try.ntmps4
  go_wp2_with fail
  refine HRW.out.mono ?_
  rintro e w1 ⟨RA, rc, rfl, hsl, kk⟩
  have hh := keep_heap kk HH.out
  have HB1 := Lib.hid (HB.out.trans (kk.mono HB.out.size))
  have HSL := Lib.hid hsl
  have HO := Lib.hid (HOF.out _ kk)
  clear HRW HOF y0 y1 kk hsl HH HB
  have y0 := cell_of_row _ w.heap.size 0 _ 24 (0, 0) hh
  have y1 := cell_of_row _ w.heap.size 1 _ 24 (0, 0) hh
  clear hh
  go_wp2_with fail
  refine HO.out.mono ?_
  rintro e w2 ⟨t, p, A, c, xs, rfl, hix, kk⟩
  have M2 := Lib.hid (show LI w (w2.alloc (.cells #[.int .i64 t.count, .int .i64 t.total, .int .i64 t.depth, .pointer p, .slice A xs.length c] 32)) w2.heap.size RA r t p A c xs from ⟨Vx.new hix (HB1.out.trans (kk.mono HB1.out.size)), (HSL.out.below kk).rd.next (below_new _ _)⟩)
  clear hix kk HO HSL HB1 y0 y1
  go_upto_region 3 with fail
  obtain ⟨g, hg1⟩ : ∃ g, w2.heap.size = g := ⟨_, rfl⟩
  obtain ⟨V2, hV⟩ : ∃ V : World, w2.alloc (.cells #[.int .i64 t.count, .int .i64 t.total, .int .i64 t.depth, .pointer p, .slice A xs.length c] 32) = V := ⟨_, rfl⟩
  rw [hV, hg1] at M2 ⊢
  clear hV hg1
  obtain ⟨x0, x1, x2, x3, x4⟩ := box5 M2.out.vx.bx
  go_wp2_with fail
  refine (M2.out.same 0 rc).mono ?_
  rintro e w3 ⟨rfl, kk⟩
  have M3 := Lib.hid (M2.out.next kk)
  clear x0 x1 x2 x3 x4 kk M2
  obtain ⟨x0, x1, x2, x3, x4⟩ := box5 M3.out.vx.bx
  by_cases hbad : a < 0 ∨ b < a ∨ (r.length : Int) < b
  · have HC := Lib.hid (unk_bad M3.out.vx.ix a b hbad)
    go_upto_region 5 with fail
    go_wp2_with fail
    refine HC.out.mono ?_
    rintro e w4 ⟨rfl, kk⟩
    have M4 := Lib.hid (M3.out.next kk)
    clear kk HC M3 x0 x1 x2 x3 x4
    go_upto_region 6 with fail
    have h3 : ¬ a < 0 → ¬ b < a → (r.length : Int) < b := fun g1 g2 => by omega
    clear hbad
    by_cases h1 : a < 0
    · clear h3
      go_wp2_with fail
      refine (lives_any _).mono ?_
      rintro e w5 ⟨rfl, kk⟩
      have M5 := Lib.hid (M4.out.next kk)
      clear kk M4
      go_wp2_with fail
      go_ret
      exact ⟨rfl, M5.out.vx.u⟩
    · have d1 : decide (a < 0) = false := decide_eq_false h1
      by_cases h2 : b < a
      · clear h3
        go_wp2_with fail
        refine (lives_any _).mono ?_
        rintro e w5 ⟨rfl, kk⟩
        have M5 := Lib.hid (M4.out.next kk)
        clear kk M4
        go_wp2_with fail
        go_ret
        exact ⟨rfl, M5.out.vx.u⟩
      · have d2 : decide (b < a) = false := decide_eq_false h2
        replace h3 := h3 h1 h2
        go_wp2_with fail
        refine (lives_any _).mono ?_
        rintro e w5 ⟨rfl, kk⟩
        have M5 := Lib.hid (M4.out.next kk)
        clear kk M4
        go_wp2_with fail
        go_ret
        exact ⟨rfl, M5.out.vx.u⟩
  · obtain ⟨i, rfl⟩ := Int.eq_ofNat_of_zero_le (show 0 ≤ a by omega)
    obtain ⟨m, rfl⟩ := Int.eq_ofNat_of_zero_le (show 0 ≤ b by omega)
    have him : i ≤ m := by omega
    have hmr : m ≤ r.length := by omega
    have HC := Lib.hid (unk_ok M3.out.vx.ix (i : Int) (m : Int) (by omega) (by omega) (by omega))
    clear hbad
    go_upto_region 5 with fail
    go_wp2_with fail
    refine HC.out.mono ?_
    rintro e w4 ⟨v, f, rfl, kk, hres⟩
    have M4 := Lib.hid (M3.out.next kk)
    have HRS := Lib.hid hres
    clear kk HC M3 x0 x1 x2 x3 x4 hres
    go_upto_region 6 with fail
    have d1 : decide ((i : Int) < 0) = false := decide_eq_false (by omega)
    have d2 : decide (m < i) = false := decide_eq_false (by omega)
    have d3 : decide (r.length < m) = false := decide_eq_false (by omega)
    have d4 : decide ((m : Int) < i) = false := decide_eq_false (by omega)
    have d5 : decide ((r.length : Int) < m) = false := decide_eq_false (by omega)
    go_upto_region 8 with fail
    clear d1 d2 d3 d4 d5
    go_wp2_with fail
    go_loopw [11] (fun k wr => ∃ j : Nat, i ≤ j ∧ j ≤ m ∧ k = .int .i64 j ∧ Hid (LI w wr g RA r t p A c xs) ∧ Hid (∀ x : Int, (i : Int) ≤ x → x < j → kn r x = true)) (fun k _ => m - (intOf k).toNat)
    case atStart => exact ⟨i, Nat.le_refl _, him, rfl, M4, Lib.hid fun x h1 h2 => by omega⟩
    case round =>
      clear M4
      obtain ⟨j, hij, hjm, rfl, MJ, HJ⟩ := hrel
      have hlen := HLN.out
      by_cases hlt : j < m
      · have hjr : j < r.length := by omega
        obtain ⟨bb, o, rfl, _, c0, c1⟩ := MJ.out.rd j hjr
        have hkj := kn_in hjr
        obtain ⟨⟨z, kb⟩, hz⟩ : ∃ x, r[j] = x := ⟨_, rfl⟩
        rw [hz] at c0 c1 hkj
        simp only at c0 c1 hkj
        cases kb with
        | false =>
          have hvf : v = j ∧ f = 0 := by
            rcases HRS.out with ⟨h0, h1, h2, h3, h4⟩ | ⟨h0, h1, h4⟩
            · rcases Int.lt_trichotomy v j with hx | hx | hx
              · rw [HJ.out v h1 hx] at h3; cases h3
              · exact ⟨hx, h0⟩
              · rw [h4 j (by omega) hx] at hkj; cases hkj
            · rw [h4 j (by omega) (by omega)] at hkj; cases hkj
          obtain ⟨rfl, rfl⟩ := hvf
          clear HRS hz hkj
          go_wp2_with fail
          refine (lives_any _).mono ?_
          rintro e w5 ⟨rfl, kk⟩
          have M5 := Lib.hid (MJ.out.next kk)
          clear kk MJ
          go_wp2_with fail
          go_ret
          exact ⟨rfl, M5.out.vx.u⟩
        | true =>
          have HJ' : Hid (∀ x : Int, (i : Int) ≤ x → x < ((j + 1 : Nat) : Int) → kn r x = true) := Lib.hid fun x h1 h2 => by
            rcases Int.lt_or_le x j with hx | hx
            · exact HJ.out x h1 hx
            · obtain rfl : x = j := by omega
              exact hkj
          clear hz hkj HJ
          go_wp2_with fail
          go_roundw
          case rel => exact ⟨j + 1, by omega, by omega, by go_num, MJ, HJ'⟩
          case measure => simp [intOf]; omega
      · have hvf : v = 0 ∧ f = 11 := by
          rcases HRS.out with ⟨h0, h1, h2, h3, h4⟩ | ⟨h0, h1, h4⟩
          · rw [HJ.out v h1 (by omega)] at h3; cases h3
          · exact ⟨h1, h0⟩
        obtain ⟨rfl, rfl⟩ := hvf
        clear HRS
        go_wp2_with fail
        refine (lives_any _).mono ?_
        rintro e w5 ⟨rfl, kk⟩
        have M5 := Lib.hid (MJ.out.next kk)
        clear kk MJ
        go_wp2_with fail
        go_ret
        exact ⟨rfl, M5.out.vx.u⟩
end Go.Proofs.Ytdejdnkkbpmmlaa
