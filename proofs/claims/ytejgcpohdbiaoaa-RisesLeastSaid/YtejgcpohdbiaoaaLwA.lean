/- The law RisesLongest. -/
import Derived.Test.YtejgcpohdbiaoaaLivW
import Derived.Test.YtejgcpohdbiaoaaRefL
namespace Go.Proofs.Ytejgcpohdbiaoaa
open Go.RowKit

theorem yesB_of {w W : World} {e : Ending} {w' : World} (h : YesB W e w') (hb : Below w.heap.size w W) : YesB w e w' := ⟨h.1, hb.trans (h.2.mono hb.size)⟩
/-- what the law has in memory: the argument, its copy, what was returned -/
structure L3 (w W : World) (A A1 A2 : Option Addr) (c c1 : Nat) (l k : List Int) : Prop where
  arg : SlI W A c l
  copy : SlI W A1 c1 l
  got : SlI W A2 k.length k
  u : Below w.heap.size w W
theorem L3.next {w W W' : World} {A A1 A2 : Option Addr} {c c1 : Nat} {l k : List Int} (h : L3 w W A A1 A2 c c1 l k) (hb : Below W.heap.size W W') : L3 w W' A A1 A2 c c1 l k :=
  ⟨h.arg.next hb, h.copy.next hb, h.got.next hb, h.u.trans (hb.mono h.u.size)⟩
set_option maxRecDepth 100000 in
set_option maxHeartbeats 4000000 in
theorem law3_any {w : World} {A : Option Addr} {c : Nat} {l : List Int} (h : SlI w A c l) : Calls Try.prog 3 #[.slice A l.length c] w (YesB w) := by
  have hle := h.le
  have hmx := h.max
  by_cases hl : 100 < l.length
  · have hl2 : (100 : Int) < (l.length : Int) := by omega
    clear h
    go_enter Try.func3, Try.ntmps3
    go_wp2_with fail
    refine (lives_any w).mono ?_
    rintro e w1 ⟨rfl, hb⟩
    have HB := Lib.hid hb
    clear hb
    go_wp2_with fail
    go_ret
    exact ⟨rfl, HB.out⟩
  · have hl2 : (l.length : Int) ≤ 100 := by omega
    have HA := Lib.hid h
    have hb0 := below_new w (.cells #[] 3)
    have HO := Lib.hid (own_made0 w)
    have HS := Lib.hid (h.next hb0)
    have HB0 := Lib.hid hb0
    have hlr : lonR l = (nats (longR l), 0) := by unfold lonR; rw [if_neg (by omega)]
    have HLR := Lib.hid hlr
    have hl4 : l.length ≤ 4096 := by omega
    clear h hb0 hlr
    go_enter Try.func3, Try.ntmps3
    go_wp2_with (
      at_builtin
      refine wp_app rfl (.tmp 10) (.tmp 11) rfl w.heap.size _ [] rfl A c l _ rfl rfl HO.out HS.out (by simp; omega) (by simp) ?_
      intro v1 w1 H1 B1 G1)
    have h1 := H1.out
    rw [List.nil_append] at h1
    obtain ⟨A1, c1, rfl, hs1⟩ := h1.sl
    have hu : Below w.heap.size w w1 := HB0.out.trans B1.out
    have H3 := Lib.hid (show L3 w w1 A A1 none c c1 l [] from ⟨HA.out.next hu, hs1, SlI.none _, hu⟩)
    have hc1 := hs1.le
    have hm1 := hs1.max
    clear h1 hs1 hu H1 B1 G1 HO HS HB0 HA
    have HL := longest_any H3.out.arg
    rw [HLR.out] at HL
    refine HL.mono ?_
    clear HL
    rintro e w2 ⟨A2, rfl, hs2, hu2⟩
    have M2 := H3.out.next hu2
    replace H3 := Lib.hid (show L3 w w2 A A1 A2 c c1 l (nats (longR l)) from ⟨M2.arg, M2.copy, hs2, M2.u⟩)
    clear hs2 hu2 M2
    have HRL := refLongest_any H3.out.arg hl4
    generalize nats (longR l) = K at *
    go_wp2_with fail
    refine HRL.mono ?_
    clear HRL
    rintro e w3 ⟨A3, c3, rfl, hs3, hu3⟩
    replace H3 := Lib.hid (H3.out.next hu3)
    have hk3 := hs3.le
    have hk3m := hs3.max
    have HSm := Lib.hid (same_any (f := 0) c3 H3.out.got.rd hs3.rd hs3.len)
    clear hs3 hu3
    go_wp2_with fail
    refine HSm.out.mono ?_
    rintro e w4 ⟨rfl, m, rfl⟩
    replace H3 := Lib.hid (H3.out.next (below_drewN w3 m))
    clear HSm
    generalize w3.drewN m = w4 at *
    have HSm := Lib.hid (same_any (f := 0) c H3.out.copy.rd H3.out.arg.rd H3.out.arg.len)
    go_wp2_with fail
    refine HSm.out.mono ?_
    rintro e w5 ⟨rfl, m, rfl⟩
    have HU := Lib.hid (H3.out.next (below_drewN w4 m)).u
    clear HSm H3
    generalize w4.drewN m = w5 at *
    go_wp2_with fail
    refine (lives_any w5).mono ?_
    rintro e w6 ⟨rfl, hb⟩
    have HB := Lib.hid (HU.out.trans (hb.mono HU.out.size))
    clear hb
    go_wp2_with fail
    go_ret
    exact ⟨rfl, HB.out⟩
end Go.Proofs.Ytejgcpohdbiaoaa
