/- The walk of lives: the chapter's examples hold. -/
import Derived.Test.YtecoobeddjfegaaLett
namespace Go.Proofs.Ytecoobeddjfegaa
open Go.RowKit

def lt (x : UInt8) : ByteArray := ⟨#[x]⟩
def l0 : List ByteArray := [lt 97, lt 98, lt 99, lt 100, lt 101]
def l1 : List ByteArray := [lt 97, lt 98, lt 120, lt 121, lt 99, lt 100, lt 101]
def l2 : List ByteArray := [lt 121, lt 99, lt 100, lt 101]
def l3 : List ByteArray := [lt 99, lt 100, lt 121, lt 101]
theorem ins1 : (sv l0).take 2 ++ (sv [lt 120, lt 121] ++ (sv l0).drop 2) = sv l1 := rfl
theorem rem2 : (sv l1).take 0 ++ (sv l1).drop (0 + 3) = sv l2 := rfl
theorem mov3 : moved (sv l2) 1 2 0 = sv l3 := rfl
theorem sv_one (ss : List ByteArray) : ∀ v ∈ sv ss, v.oneCell' = true := by
  intro u hu
  obtain ⟨x, _, rfl⟩ := List.mem_map.1 hu
  rfl
theorem j1 : joinB l1 = ⟨#[97, 98, 120, 121, 99, 100, 101]⟩ := by rfl
theorem j2 : joinB l2 = ⟨#[121, 99, 100, 101]⟩ := by rfl
theorem j3 : joinB l3 = ⟨#[99, 100, 121, 101]⟩ := by rfl
def LivesOk : Prop := ∀ w : World, Calls Try.prog 7 #[] w fun e w' => e = .returned (.bool true) ∧ Below w.heap.size w w'
set_option maxRecDepth 100000 in
set_option maxHeartbeats 4000000 in
theorem lives_any : LivesOk := by
  intro w
  have hr0 : RdV (w.alloc (.cells #[.string ⟨#[97]⟩, .string ⟨#[98]⟩, .string ⟨#[99]⟩, .string ⟨#[100]⟩, .string ⟨#[101]⟩] 9)) (w.alloc (.cells #[.string ⟨#[97]⟩, .string ⟨#[98]⟩, .string ⟨#[99]⟩, .string ⟨#[100]⟩, .string ⟨#[101]⟩] 9)).heap.size (some ⟨w.heap.size, 0, none⟩) (sv l0) := RdV.lit rfl
  have HN := Lib.hid (snew_ok (C := some ⟨w.heap.size, 0, none⟩) (m := 5) (c := 5) rfl (by omega) hr0 (sv_one l0))
  clear hr0
  go_enter Try.func7, Try.ntmps7
  go_wp2_with fail
  refine HN.out.mono ?_
  rintro r w1 ⟨⟨b, rfl, hh⟩, hb⟩
  clear HN
  have HB : Hid (Below w.heap.size w w1) := Lib.hid (((Below.refl _ _).alloc (Nat.le_refl _) _).trans (hb.mono (by simp)))
  have HH := Lib.hid hh
  clear hh hb
  have HBw : Hid (w.heap.size ≤ (w.alloc (.cells #[.string ⟨#[97]⟩, .string ⟨#[98]⟩, .string ⟨#[99]⟩, .string ⟨#[100]⟩, .string ⟨#[101]⟩] 9)).heap.size) := Lib.hid (by simp)
  generalize (w.alloc (.cells #[.string ⟨#[97]⟩, .string ⟨#[98]⟩, .string ⟨#[99]⟩, .string ⟨#[100]⟩, .string ⟨#[101]⟩] 9)).heap.size = B at *
  have hr1 : RdV (w1.alloc (.cells #[.string ⟨#[120]⟩, .string ⟨#[121]⟩] 9)) (w1.alloc (.cells #[.string ⟨#[120]⟩, .string ⟨#[121]⟩] 9)).heap.size (some ⟨w1.heap.size, 0, none⟩) (sv [lt 120, lt 121]) := RdV.lit rfl
  have hi := sinsert_ok (HH.out.alloc (.cells #[.string ⟨#[120]⟩, .string ⟨#[121]⟩] 9)) 2 (by omega) (m := 2) (c := 2) rfl (by omega) hr1 (fun a o e _ => .inr (by injection e with e; injection e with e1 e2; omega)) (sv_one _)
  have HI : Hid (Calls Try.prog 18 #[.pointer (some ⟨b, 0, none⟩), .int .i64 2, .slice (some ⟨w1.heap.size, 0, none⟩) 2 2] (w1.alloc (.cells #[.string ⟨#[120]⟩, .string ⟨#[121]⟩] 9)) fun r w' => r = .returned (.int .i64 0) ∧
      Has 9 53 B w'.heap.size w' b 7 (sv l1) 4 ∧ Below B (w1.alloc (.cells #[.string ⟨#[120]⟩, .string ⟨#[121]⟩] 9)) w') := Lib.hid hi
  have hBw : w.heap.size ≤ B := HBw.out
  have HB1 : Hid (Below w.heap.size w (w1.alloc (.cells #[.string ⟨#[120]⟩, .string ⟨#[121]⟩] 9))) := Lib.hid (HB.out.trans ((Below.refl w1.heap.size w1).alloc (Nat.le_refl _) _ |>.mono HB.out.size))
  clear hr1 hi HH
  go_wp2_with fail
  refine HI.out.mono ?_
  rintro r w2 ⟨rfl, hh, hb⟩
  have HH := Lib.hid hh
  have HB2 := Lib.hid (HB1.out.trans (hb.mono hBw))
  clear hh hb HI HB HB1
  have hl := letters_any HH.out (by decide) (by omega)
  rw [j1] at hl
  have HL := Lib.hid hl
  clear hl
  go_wp2_with fail
  refine HL.out.mono ?_
  rintro r w3 ⟨rfl, hb⟩
  have HH3 := Lib.hid (HH.out.below hb)
  have HB3 := Lib.hid (HB2.out.trans (hb.mono HB2.out.size))
  clear hb HL HH HB2
  have HG : Hid (Calls Try.prog 20 #[.pointer (some ⟨b, 0, none⟩)] w3 fun r w' => r = .returned (.int .i64 4) ∧ w3 = w') := Lib.hid ((shgap HH3.out).mono fun _ _ h => ⟨h.1, h.2.symm⟩)
  have HR : Hid (Calls Try.prog 21 #[.pointer (some ⟨b, 0, none⟩), .int .i64 0, .int .i64 3] w3 fun r w' => r = .returned (.int .i64 0) ∧ Has 9 53 B w2.heap.size w' b 4 (sv l2) 0 ∧ Below B w3 w') := Lib.hid (sremove_ok HH3.out 0 3 (by omega))
  go_wp2_with fail
  refine HG.out.mono ?_
  rintro r w' ⟨rfl, rfl⟩
  go_wp2_with fail
  refine HR.out.mono ?_
  rintro r w4 ⟨rfl, hh, hb⟩
  have HH4 := Lib.hid hh
  have HB4 := Lib.hid (HB3.out.trans (hb.mono hBw))
  clear hh hb HG HR HH3 HB3
  have hl := letters_any HH4.out (by decide) (by omega)
  rw [j2] at hl
  have HL := Lib.hid hl
  clear hl
  go_wp2_with fail
  refine HL.out.mono ?_
  rintro r w5 ⟨rfl, hb⟩
  have HH5 := Lib.hid (HH4.out.below hb)
  have HB5 := Lib.hid (HB4.out.trans (hb.mono HB4.out.size))
  clear hb HL HH4 HB4
  have HG : Hid (Calls Try.prog 20 #[.pointer (some ⟨b, 0, none⟩)] w5 fun r w' => r = .returned (.int .i64 0) ∧ w5 = w') := Lib.hid ((shgap HH5.out).mono fun _ _ h => ⟨h.1, h.2.symm⟩)
  have HM : Hid (Calls Try.prog 22 #[.pointer (some ⟨b, 0, none⟩), .int .i64 1, .int .i64 2, .int .i64 0] w5 fun r w' => r = .returned (.int .i64 0) ∧ Has 9 53 B w'.heap.size w' b 4 (sv l3) 2 ∧ Below B w5 w') := Lib.hid (smove_ok HH5.out 1 2 0 (by omega) (by omega))
  go_wp2_with fail
  refine HG.out.mono ?_
  rintro r w' ⟨rfl, rfl⟩
  go_wp2_with fail
  refine HM.out.mono ?_
  rintro r w6 ⟨rfl, hh, hb⟩
  have HH6 := Lib.hid hh
  have HB6 := Lib.hid (HB5.out.trans (hb.mono hBw))
  clear hh hb HG HM HH5 HB5
  have HA := Lib.hid (sat_bad HH6.out 4 (.inr (by decide)))
  go_wp2_with fail
  refine HA.out.mono ?_
  rintro r w7 ⟨rfl, m7, rfl⟩
  have hl := letters_any (HH6.out.drewN m7) (by decide) (by omega)
  rw [j3] at hl
  have HL := Lib.hid hl
  clear hl HA
  go_wp2_with fail
  refine HL.out.mono ?_
  rintro r w8 ⟨rfl, hb⟩
  have HH8 := Lib.hid ((HH6.out.drewN m7).below hb)
  have HB8 : Hid (Below w.heap.size w w8) := Lib.hid (HB6.out.trans ((show Below w6.heap.size w6 w8 from ⟨hb.os, hb.tape, hb.output, hb.size, hb.block⟩).mono HB6.out.size))
  clear hb HL HH6 HB6
  have HH9 := Lib.hid (HH8.out.alloc (.cells #[.string ⟨#[120]⟩] 9))
  have HB9 : Hid (Below w.heap.size w (w8.alloc (.cells #[.string ⟨#[120]⟩] 9))) := Lib.hid (HB8.out.trans ((Below.refl w8.heap.size w8).alloc (Nat.le_refl _) _ |>.mono HB8.out.size))
  have HI := Lib.hid (sinsert_bad HH9.out 5 (.slice (some ⟨w8.heap.size, 0, none⟩) 1 1) (.inr (by decide)))
  have HR := Lib.hid (fun m => sremove_bad (HH9.out.drewN m) 3 2 (by decide) (by decide))
  have HM := Lib.hid (fun m => smove_out (HH9.out.drewN m) 0 2 3 (by decide) (.inr (by decide)))
  clear HH8 HB8
  go_wp2_with fail
  refine HI.out.mono ?_
  rintro r w' ⟨rfl, m1, rfl⟩
  go_wp2_with fail
  refine (HR.out m1).mono ?_
  rintro r w' ⟨rfl, m2, rfl⟩
  go_wp2_with fail
  refine (HM.out (m1 + m2)).mono ?_
  rintro r w' ⟨rfl, m3, rfl⟩
  go_wp2_with fail
  go_ret
  exact ⟨rfl, below_drewN HB9.out (m1 + m2 + m3)⟩
end Go.Proofs.Ytecoobeddjfegaa
