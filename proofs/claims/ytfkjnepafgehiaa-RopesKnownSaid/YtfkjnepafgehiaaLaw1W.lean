/- The walk of the law RopesOf. -/
import Derived.Test.YtfkjnepafgehiaaLives
namespace Go.Proofs.Ytfkjnepafgehiaa
open Go.RowKit

theorem vd_nil : Vd [] := chk_zero.1 (by decide)
/-- what Of returns, and the law's list of it -/
structure OfS (w : World) (zs : List Int) (t : T) (p : Option Addr) (W : World) : Prop where
  ls : Ls zs t
  nd : Nd W t p
  u : Below w.heap.size w W

set_option maxHeartbeats 1000000 in
theorem law1_long (hL : LivesOk) (A : Option Addr) (c : Nat) (zs : List Int) (w : World) (hl : 100 < zs.length) (hl2 : zs.length ≤ 9223372036854775807) :
    Calls Try.prog 3 #[.slice A zs.length c] w fun e w' => e = .returned (.bool true) ∧ Below w.heap.size w w' := by
  have HL := Lib.hid hL; clear hL
  go_enter Try.func3, Try.ntmps3
  go_wp2_with fail
  refine (HL.out _).mono ?_
  rintro e w1 ⟨rfl, hb⟩
  go_wp2_with fail
  go_ret
  exact ⟨rfl, hb⟩

set_option maxHeartbeats 2000000 in
theorem law1_bad (hL : LivesOk) (A : Option Addr) (c : Nat) (zs : List Int) (w : World) (hr : RdI w w.heap.size A zs) (hl : zs.length ≤ 100) (h0 : chk zs ≠ 0) :
    Calls Try.prog 3 #[.slice A zs.length c] w fun e w' => e = .returned (.bool true) ∧ Below w.heap.size w w' := by
  have HL := Lib.hid hL; clear hL
  have h10 := Lib.hid (refCheck_any A c zs w hr (by omega))
  have h11 := Lib.hid (of_bad A c zs w hr (by omega) h0)
  clear hr
  generalize chk zs = r at *
  have b1 : (r == 0) = false := by simpa using h0
  have b2 : (r != 0) = true := by simpa using h0
  clear h0
  go_enter Try.func3, Try.ntmps3
  go_wp2_with fail
  refine h10.out.mono ?_
  rintro e w' ⟨rfl, rfl⟩
  go_wp2_with fail
  refine h11.out.mono ?_
  rintro e w1 ⟨t, p, ht, rfl, hn, kk⟩
  have hb1 := (Below.refl w1.heap.size w1).alloc (Nat.le_refl _) (.cells #[.int .i64 t.count, .int .i64 t.total, .int .i64 t.depth, .pointer p] 27)
  have HB1 := Lib.hid (kk.trans (hb1.mono kk.size))
  have HN := Lib.hid (hn.below hb1)
  have HT := Lib.hid ht
  clear ht hn kk hb1 h10 h11
  go_wp2_with fail
  refine (same_lit HN.out HT.out vd_nil RdI.nil rfl).mono ?_
  rintro e w2 ⟨rfl, kk⟩
  have HB2 := Lib.hid (HB1.out.trans (kk.mono HB1.out.size))
  clear kk HN
  go_wp2_with fail
  refine (HL.out _).mono ?_
  rintro e w3 ⟨rfl, kk⟩
  have HB3 := Lib.hid (HB2.out.trans (kk.mono HB2.out.size))
  clear kk
  go_wp2_with fail
  go_ret
  exact ⟨rfl, HB3.out⟩

set_option maxHeartbeats 2000000 in
theorem law1_ok (hL : LivesOk) (A : Option Addr) (c : Nat) (zs : List Int) (w : World) (hr : RdI w w.heap.size A zs) (hl : zs.length ≤ 100) (hlc : zs.length ≤ c) (hm : c ≤ 9223372036854775807) (h0 : chk zs = 0) :
    Calls Try.prog 3 #[.slice A zs.length c] w fun e w' => e = .returned (.bool true) ∧ Below w.heap.size w w' := by
  have HL := Lib.hid hL; clear hL
  have hv := chk_zero.1 h0
  have h10 := Lib.hid (refCheck_any A c zs w hr (by omega))
  have h11 := Lib.hid (of_ok A c zs w hr hv hlc hm)
  rw [h0] at h10
  have HR := Lib.hid hr
  have HV := Lib.hid hv
  clear hr hv h0
  go_enter Try.func3, Try.ntmps3
  go_wp2_with fail
  refine h10.out.mono ?_
  rintro e w' ⟨rfl, rfl⟩
  go_wp2_with fail
  refine h11.out.mono ?_
  rintro e w1 ⟨t, p, ht, rfl, hn, kk⟩
  have hb1 := (Below.refl w1.heap.size w1).alloc (Nat.le_refl _) (.cells #[.int .i64 t.count, .int .i64 t.total, .int .i64 t.depth, .pointer p] 27)
  have HB1 := Lib.hid (kk.trans (hb1.mono kk.size))
  have HN := Lib.hid (hn.below hb1)
  have HT := Lib.hid ht.ls
  clear ht hn kk hb1 h10 h11
  go_wp2_with fail
  refine (same_lit HN.out HT.out HV.out (HR.out.next HB1.out) rfl).mono ?_
  rintro e w2 ⟨rfl, kk⟩
  have HB2 := Lib.hid (HB1.out.trans (kk.mono HB1.out.size))
  clear kk HN
  go_wp2_with fail
  refine (HL.out _).mono ?_
  rintro e w3 ⟨rfl, kk⟩
  have HB3 := Lib.hid (HB2.out.trans (kk.mono HB2.out.size))
  clear kk
  go_wp2_with fail
  go_ret
  exact ⟨rfl, HB3.out⟩

theorem law1_any (hL : LivesOk) (A : Option Addr) (c : Nat) (zs : List Int) (w : World) (hr : RdI w w.heap.size A zs) (hlc : zs.length ≤ c) (hm : c ≤ 9223372036854775807) :
    Calls Try.prog 3 #[.slice A zs.length c] w fun e w' => e = .returned (.bool true) ∧ Below w.heap.size w w' := by
  rcases Nat.lt_or_ge 100 zs.length with h | h
  · exact law1_long hL A c zs w h (by omega)
  · by_cases h0 : chk zs = 0
    · exact law1_ok hL A c zs w hr h hlc hm h0
    · exact law1_bad hL A c zs w hr h h0
end Go.Proofs.Ytfkjnepafgehiaa
