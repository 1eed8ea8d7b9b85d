/- The walk of the law GapsNil. -/
import Derived.Test.YtecoobeddjfegaaOpsdI
import Derived.Test.YtecoobeddjfegaaLives
namespace Go.Proofs.Ytecoobeddjfegaa
open Go.RowKit

theorem set_nil {w : World} {i x : Int} : Calls Try.prog 15 #[.pointer none, .int .i64 i, .int .i64 x] w fun r w' => r = .returned (.int .i64 2) ∧ w = w' := by
  have hp := Lib.hid (iplace_nil (w := w) (i := i))
  go_enter Try.func15, Try.ntmps15
  go_wp2_with fail
  refine hp.out.mono ?_
  rintro r w' ⟨rfl, rfl⟩
  go_wp2_with fail
  go_ret
  exact ⟨rfl, rfl⟩
theorem gap_nil {w : World} : Calls Try.prog 16 #[.pointer none] w fun r w' => r = .returned (.int .i64 0) ∧ w = w' := by
  go_enter Try.func16, Try.ntmps16
  go_wp2
  go_ret
  exact ⟨rfl, rfl⟩
theorem flip {f : FuncId} {args : Array Value} {w : World} {e : Ending} (h : Calls Try.prog f args w fun r w' => r = e ∧ w' = w) : Calls Try.prog f args w fun r w' => r = e ∧ w = w' :=
  h.mono fun _ _ h => ⟨h.1, h.2.symm⟩
theorem has_zero (T D : TypeId) (w : World) : Has T D w.heap.size (w.heap.size + 1) (w.alloc (.cells #[.slice none 0 0, .int .i64 0, .int .i64 0] D)) w.heap.size 0 [] 0 :=
  ⟨Nat.le_refl _, by omega, by simp, none, w.heap.size, 0, 0, ⟨heap_alloc_new w _, fun hN => absurd hN (by omega), fun _ => rfl, rfl, Nat.le_refl _, Nat.le_refl _, Nat.le_refl _, Nat.le_refl _, Nat.le_refl _, by omega, by simp, fun hN => absurd hN (by omega)⟩, Nat.le_refl _, by omega⟩
theorem Has.lower {T D : TypeId} {B B' U : Nat} {w : World} {b n g : Nat} {xs : List Value} (h : Has T D B U w b n xs g) (hB : B' ≤ B) : Has T D B' U w b n xs g := by
  obtain ⟨h1, h3, h4, A, S, N, e, hb, h2, h5⟩ := h
  exact ⟨by omega, h3, h4, A, S, N, e, hb, by omega, h5⟩
set_option maxRecDepth 100000 in
set_option maxHeartbeats 4000000 in
theorem law5_any (hL : LivesOk) (i k : Int) (w : World) :
    Calls Try.prog 5 #[.int .i64 i, .int .i64 k] w fun e w' => e = .returned (.bool true) ∧ Below w.heap.size w w' := by
  have HL := Lib.hid hL; clear hL
  have K1 := Lib.hid (fun W => flip (iat_nil (w := W) (i := i)))
  have K2 := Lib.hid (fun W => set_nil (w := W) (i := i) (x := k))
  have K3 := Lib.hid (fun W v => flip (iinsert_nil (w := W) (i := i) (v := v)))
  have K4 := Lib.hid (fun W => flip (iremove_nil (w := W) (i := i) (k := k)))
  have K5 := Lib.hid (fun W => flip (imove_nil (w := W) (i := i) (k := k) (t := 0)))
  have K6 := Lib.hid (fun W => flip (ilen_nil (w := W)))
  have K7 := Lib.hid (fun W => gap_nil (w := W))
  have K8 := Lib.hid (fun W => flip (ilist_nil (w := W)))
  go_enter Try.func5, Try.ntmps5
  go_wp2_with fail
  refine (K1.out _).mono ?_
  rintro r w' ⟨rfl, rfl⟩
  go_wp2_with fail
  refine (K2.out _).mono ?_
  rintro r w' ⟨rfl, rfl⟩
  go_wp2_with fail
  refine (K3.out _ _).mono ?_
  rintro r w' ⟨rfl, rfl⟩
  go_wp2_with fail
  refine (K4.out _).mono ?_
  rintro r w' ⟨rfl, rfl⟩
  go_wp2_with fail
  refine (K5.out _).mono ?_
  rintro r w' ⟨rfl, rfl⟩
  go_wp2_with fail
  refine (K6.out _).mono ?_
  rintro r w' ⟨rfl, rfl⟩
  go_wp2_with fail
  refine (K7.out _).mono ?_
  rintro r w' ⟨rfl, rfl⟩
  go_wp2_with fail
  refine (K8.out _).mono ?_
  rintro r w' ⟨rfl, rfl⟩
  go_wp2_with fail
  obtain ⟨W, HH, HB, hW⟩ : ∃ W : World, Hid (Has 3 39 w.heap.size W.heap.size W (w.heap.size + 1) 0 [] 0) ∧ Hid (Below w.heap.size w W) ∧ W = (w.alloc (.cells #[.int .i64 k] 3)).alloc (.cells #[.slice none 0 0, .int .i64 0, .int .i64 0] 39) :=
    ⟨_, Lib.hid (by
      have := ((has_zero 3 39 (w.alloc (.cells #[.int .i64 k] 3))).now).lower (B' := w.heap.size) (by simp)
      simpa using this), ((Below.refl w.heap.size w).alloc (Nat.le_refl _) _).alloc (by simp) _, rfl⟩
  rw [← hW]
  clear hW K1 K2 K3 K4 K5 K6 K7 K8
  generalize w.heap.size + 1 = b at *
  have k1 := Lib.hid (iat_bad HH.out i (by omega))
  have k2 := Lib.hid (fun m => ihlen (HH.out.drewN m))
  have k3 : Hid (∀ m, Calls Try.prog 10 #[.pointer (some ⟨b, 0, none⟩), .int .i64 0, .int .i64 0] (W.drewN m) fun r w' => r = .returned (.int .i64 0) ∧ Has 3 39 w.heap.size W.heap.size w' b 0 [] 0 ∧ Below w.heap.size (W.drewN m) w') := Lib.hid (fun m => iremove_ok (HH.out.drewN m) 0 0 (by omega))
  refine k1.out.mono ?_
  rintro r w' ⟨rfl, m1, rfl⟩
  go_wp2_with fail
  refine (k2.out m1).mono ?_
  rintro r w' ⟨rfl, m2, rfl⟩
  go_wp2_with fail
  refine (k3.out (m1 + m2)).mono ?_
  rintro r w1 ⟨rfl, hh, hb⟩
  have HH1 := Lib.hid (hh.alloc (.cells #[.int .i64 k] 3))
  have HB1 : Hid (Below w.heap.size w w1) := Lib.hid ((below_drewN HB.out (m1 + m2)).trans hb)
  have hlo : Hid (W.heap.size ≤ w1.heap.size) := Lib.hid hh.2.2.1
  clear hh hb k1 k2 k3 HH
  have hr1 : RdV (w1.alloc (.cells #[.int .i64 k] 3)) (w1.alloc (.cells #[.int .i64 k] 3)).heap.size (some ⟨w1.heap.size, 0, none⟩) [.int .i64 k] := RdV.lit rfl
  have k4 : Hid (Calls Try.prog 9 #[.pointer (some ⟨b, 0, none⟩), .int .i64 0, .slice (some ⟨w1.heap.size, 0, none⟩) 1 1] (w1.alloc (.cells #[.int .i64 k] 3)) fun r w' => r = .returned (.int .i64 0) ∧
      Has 3 39 w.heap.size w'.heap.size w' b 1 [.int .i64 k] 1 ∧ Below w.heap.size (w1.alloc (.cells #[.int .i64 k] 3)) w') := Lib.hid (iinsert_ok HH1.out 0 (Nat.le_refl _) (m := 1) (c := 1) rfl (by omega) hr1 (fun a o e _ => .inr (by injection e with e; injection e with e1 e2; have := hlo.out; omega)) (by simp [Value.oneCell']))
  have HB2 : Hid (Below w.heap.size w (w1.alloc (.cells #[.int .i64 k] 3))) := Lib.hid (HB1.out.alloc HB1.out.size _)
  clear hr1 HB1 HH1 hlo
  go_wp2_with fail
  refine k4.out.mono ?_
  rintro r w2 ⟨rfl, hh, hb⟩
  have HH2 := Lib.hid hh
  have HB3 : Hid (Below w.heap.size w w2) := Lib.hid (HB2.out.trans hb)
  clear hh hb k4 HB2 HB
  have k5 : Hid (Calls Try.prog 14 #[.pointer (some ⟨b, 0, none⟩), .int .i64 0] w2 fun r w' => r = .returned (.tuple #[.int .i64 k, .int .i64 0]) ∧ ∃ m, w' = w2.drewN m) := Lib.hid (iat_ok HH2.out 0 (by omega) _ rfl)
  have k6 := Lib.hid (fun m => ihlen (HH2.out.drewN m))
  have k7 := Lib.hid (fun m => flip (ihgap (HH2.out.drewN m)))
  go_wp2_with fail
  refine k5.out.mono ?_
  rintro r w' ⟨rfl, m3, rfl⟩
  go_wp2_with fail
  refine (k6.out m3).mono ?_
  rintro r w' ⟨rfl, m4, rfl⟩
  go_wp2_with fail
  refine (k7.out (m3 + m4)).mono ?_
  rintro r w' ⟨rfl, rfl⟩
  go_wp2_with fail
  refine (HL.out _).mono ?_
  rintro r w3 ⟨rfl, hb⟩
  have HB4 : Hid (Below w.heap.size w w3) := Lib.hid (HB3.out.trans ((show Below w2.heap.size w2 w3 from ⟨hb.os, hb.tape, hb.output, hb.size, hb.block⟩).mono HB3.out.size))
  clear hb
  go_wp2_with fail
  go_ret
  exact ⟨rfl, HB4.out⟩
end Go.Proofs.Ytecoobeddjfegaa
