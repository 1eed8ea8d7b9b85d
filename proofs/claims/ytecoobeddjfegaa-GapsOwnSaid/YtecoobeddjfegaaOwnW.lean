/- The walk of the law GapsOwn. -/
import Derived.Test.YtecoobeddjfegaaNilW
import Derived.Test.YtecoobeddjfegaaOwnAux
namespace Go.Proofs.Ytecoobeddjfegaa
open Go.RowKit

theorem iv_get? (zs : List Int) (k : Nat) (h : k < zs.length) : (iv zs)[k]? = some (.int .i64 zs[k]) := by simp [iv, h]
theorem iv_get (zs : List Int) (k : Nat) (h : k < zs.length) (h' : k < (iv zs).length) : (iv zs)[k] = .int .i64 zs[k] := by simp [iv]
set_option maxRecDepth 100000 in
set_option maxHeartbeats 1000000 in
theorem law4_long (hL : LivesOk) (A C : Option Addr) (n c m d : Nat) (w : World) (hl : 40 < n ∨ n ≤ 40 ∧ 20 < m) (hl2 : n ≤ 9223372036854775807) (hm : m ≤ 9223372036854775807) :
    Calls Try.prog 4 #[.slice A n c, .slice C m d] w fun e w' => e = .returned (.bool true) ∧ Below w.heap.size w w' := by
  have HL := Lib.hid hL; clear hL
  rcases hl with hl | ⟨hl, hl3⟩
  · go_enter Try.func4, Try.ntmps4
    go_wp2_with fail
    refine (HL.out _).mono ?_
    rintro e w1 ⟨rfl, hb⟩
    go_wp2_with fail
    go_ret
    exact ⟨rfl, hb⟩
  · go_enter Try.func4, Try.ntmps4
    go_wp2_with fail
    refine (HL.out _).mono ?_
    rintro e w1 ⟨rfl, hb⟩
    go_wp2_with fail
    go_ret
    exact ⟨rfl, hb⟩
set_option maxRecDepth 100000 in
set_option maxHeartbeats 8000000 in
theorem law4_ok (hL : LivesOk) (A C : Option Addr) (n c m d : Nat) (zs ms : List Int) (w : World) (hr : RdV w w.heap.size A (iv zs)) (hr2 : RdV w w.heap.size C (iv ms)) (hn : zs.length = n) (hm : ms.length = m) (hl : n ≤ 40) (hl2 : m ≤ 20) (hA : A = none → c = 0) (hC : C = none → d = 0) :
    Calls Try.prog 4 #[.slice A n c, .slice C m d] w fun e w' => e = .returned (.bool true) ∧ Below w.heap.size w w' := by
  have HL := Lib.hid hL; clear hL
  obtain ⟨i0, hi0, hz0, hz1, hz2⟩ := info_parts Try.inf3
  have d40 : decide ((40 : Int) < (n : Int)) = false := by simp; omega
  have d20 : decide ((20 : Int) < (m : Int)) = false := by simp; omega
  have HN := Lib.hid hn
  have HM := Lib.hid hm
  have HA : Hid (∀ W, Below w.heap.size w W → (A = none ∧ n = 0 ∧ c = 0) ∨ ∃ ad, A = some ad ∧ ∀ j u, (iv zs)[j]? = some u → W.cell? (ad.add j) = some u) := Lib.hid fun W hb => (hr.below hb).src (by rw [iv_len]; exact hn) hA
  have HC : Hid (∀ W, Below w.heap.size w W → (C = none ∧ m = 0 ∧ d = 0) ∨ ∃ ad, C = some ad ∧ ∀ j u, (iv ms)[j]? = some u → W.cell? (ad.add j) = some u) := Lib.hid fun W hb => (hr2.below hb).src (by rw [iv_len]; exact hm) hC
  have hb0 : Hid (Below w.heap.size w (w.alloc (.cells #[] 3))) := Lib.hid ((Below.refl _ _).alloc (Nat.le_refl _) _)
  have hown0 : (w.alloc (.cells #[] 3)).ownsRow w.heap.size 3 1 (.slice (some ⟨w.heap.size, 0, none⟩) 0 0) 0 [] := World.ownsRow_made w #[] 0 (Nat.le_refl _) (by simp [maxLen]) rfl
  clear hr hr2 hn hm hA hC
  go_enter Try.func4, Try.ntmps4
  go_wp2_with (first
    | (at_builtin
       refine append_src rfl (.tmp 27) (.tmp 28) _ rfl w.heap.size 3 i0 _ 8 Try.underlying22 hi0 hz0 hz1 hz2 rfl _ 0 [] rfl hown0
         A n c (iv zs) rfl (by rw [iv_len]; exact HN.out) (HA.out _ hb0.out) (iv_one _) (by simp [maxLen]; omega) (by omega) (by simp) ?_
       intro v1 w1 hown1 hgrow1
       have hb1 : Hid (Below w.heap.size w (w1.alloc (.cells #[] 3))) := Lib.hid ((hb0.out.trans ((Below.refl _ _).grown hgrow1 (by simp) (fun j e => (hown0.lt j e).1))).alloc (Nat.le_trans hb0.out.size hgrow1.size) _)
       have hownB : (w1.alloc (.cells #[] 3)).ownsRow w1.heap.size 3 1 (.slice (some ⟨w1.heap.size, 0, none⟩) 0 0) 0 [] := World.ownsRow_made w1 #[] 0 (Nat.le_refl _) (by simp [maxLen]) rfl)
    | (at_builtin
       refine append_src rfl (.tmp 30) (.tmp 31) _ rfl w1.heap.size 3 i0 _ 8 Try.underlying22 hi0 hz0 hz1 hz2 rfl _ 0 [] rfl hownB
         C m d (iv ms) rfl (by rw [iv_len]; exact HM.out) (HC.out _ hb1.out) (iv_one _) (by simp [maxLen]; omega) (by omega) (by simp) ?_
       intro v2 w2 hown2 hgrow2))
  have hB12 : Below w1.heap.size w1 w2 := ((Below.refl _ w1).alloc (Nat.le_refl _) _).trans ((Below.refl _ _).grown hgrow2 (by simp) (fun j e => (hownB.lt j e).1))
  obtain ⟨D1, e1, rfl, hrd1, hx1, hl1⟩ := own_row (n := n) (zs := zs) (by simpa using hown1) HN.out
  obtain ⟨D2, e2, rfl, hrd2, hx2, hl2'⟩ := own_row (n := m) (zs := ms) (by simpa using hown2) HM.out
  have HB2 : Hid (Below w.heap.size w w2) := Lib.hid (hb1.out.trans (((Below.refl _ _).grown hgrow2 (by simp) (fun j e => (hownB.lt j e).1)).mono (by have := hgrow1.size; simp at this; omega)))
  have hx1' := hx1.below hB12
  have HX1 := Lib.hid hx1'
  have HS2 : Hid (w.heap.size ≤ w2.heap.size) := Lib.hid HB2.out.size
  have HX2 := Lib.hid hx2
  have HRD1 := Lib.hid (hrd1.next hB12)
  have HRD2 := Lib.hid hrd2
  have HNW : Hid (Calls Try.prog 8 #[.slice D1 n e1] w2 fun r w' => (∃ b, r = .returned (.tuple #[.pointer (some ⟨b, 0, none⟩), .int .i64 0]) ∧ Has 3 39 w2.heap.size w'.heap.size w' b n (iv zs) n) ∧ Below w2.heap.size w2 w') :=
    Lib.hid (inew_ok (by rw [iv_len]; exact HN.out) (by omega) (hrd1.next hB12) (iv_one zs))
  have HL1 : Hid (∀ g o, D1 = some ⟨g, o, none⟩ → g < w2.heap.size) := Lib.hid (fun g o e => by have := (hl1 g o e).2; have := hB12.size; omega)
  have HL2 : Hid (∀ g o, D2 = some ⟨g, o, none⟩ → g < w2.heap.size) := Lib.hid (fun g o e => (hl2' g o e).2)
  have HLL : Hid (∀ g1 g2, D1 = some ⟨g1, 0, none⟩ → D2 = some ⟨g2, 0, none⟩ → g1 ≠ g2) := Lib.hid (fun g1 g2 h1 h2 => by have := (hl1 g1 0 h1).2; have := (hl2' g2 0 h2).1; omega)
  have HLW : Hid ((∀ g o, D1 = some ⟨g, o, none⟩ → w.heap.size ≤ g) ∧ (∀ g o, D2 = some ⟨g, o, none⟩ → w.heap.size ≤ g)) := Lib.hid ⟨fun g o e => (hl1 g o e).1, fun g o e => by have h1 := (hl2' g o e).1; have h2 := hgrow1.size; simp at h2; omega⟩
  clear hown1 hown2 hgrow1 hgrow2 hownB hown0 hb0 hb1 hB12 hrd1 hrd2 hx1 hx2 hl1 hl2' hx1'
  refine HNW.out.mono ?_
  rintro r w3 ⟨⟨b, rfl, hh⟩, hb⟩
  have HH3 := Lib.hid hh
  have HB3 := Lib.hid (HB2.out.trans (hb.mono HB2.out.size))
  have HX1b := Lib.hid (HX1.out.below hb)
  have HX2b := Lib.hid (HX2.out.below hb)
  have HRD2b := Lib.hid (HRD2.out.next hb)
  have K1 := Lib.hid (ihlen hh)
  have K2 : Hid (∀ j, Calls Try.prog 9 #[.pointer (some ⟨b, 0, none⟩), .int .i64 n, .slice D2 m e2] (w3.drewN j) fun r w' => r = .returned (.int .i64 0) ∧ (∃ g, Has 3 39 w2.heap.size w'.heap.size w' b (n + m) (iv (zs ++ ms)) g) ∧ Below w2.heap.size (w3.drewN j) w') := Lib.hid (fun j => by
    refine (iinsert_ok (HH3.out.drewN j) n (Nat.le_refl _) (by rw [iv_len]; exact HM.out) (by omega) HRD2b.out (fun a o e _ => .inl (HL2.out a o e)) (iv_one ms)).mono ?_
    rintro r w' ⟨rfl, hh, hb⟩
    rw [List.take_of_length_le (by rw [iv_len]; exact Nat.le_of_eq HN.out), List.drop_of_length_le (by rw [iv_len]; exact Nat.le_of_eq HN.out), List.append_nil, show iv zs ++ iv ms = iv (zs ++ ms) from by simp [iv]] at hh
    exact ⟨rfl, ⟨_, hh⟩, hb⟩)
  clear hh hb HNW HX1 HX2 HRD1 HRD2 HB2
  go_wp2_with fail
  refine K1.out.mono ?_
  rintro r w' ⟨rfl, j, rfl⟩
  go_wp2_with fail
  refine (K2.out j).mono ?_
  rintro r w4 ⟨rfl, ⟨g4, hh⟩, hb⟩
  have HH4 := Lib.hid hh
  have HB4 : Hid (Below w.heap.size w w4) := Lib.hid (HB3.out.trans ((show Below w2.heap.size w3 w4 from ⟨hb.os, hb.tape, hb.output, hb.size, hb.block⟩).mono HS2.out))
  have HX1c : Hid (XR w4 D1 n) := Lib.hid (HX1b.out.keep (fun _ g e => hb.block g (HL1.out g 0 e)))
  have HX2c : Hid (XR w4 D2 m) := Lib.hid (HX2b.out.keep (fun _ g e => hb.block g (HL2.out g 0 e)))
  have K3 := Lib.hid (ihlen hh)
  have K4 := Lib.hid (fun x => ihlist (hh.drewN x))
  clear hh hb K1 K2 HX1b HX2b HRD2b HB3 HH3
  go_wp2_with fail
  refine K3.out.mono ?_
  rintro r w' ⟨rfl, j2, rfl⟩
  go_wp2_with fail
  refine (K4.out j2).mono ?_
  rintro r w5 ⟨G, rfl, hG, hrow, hb⟩
  have hGw : w4.heap.size ≤ G := hG
  have hb' : Below w4.heap.size w4 w5 := ⟨hb.os, hb.tape, hb.output, hb.size, hb.block⟩
  have HH5 := Lib.hid (HH4.out.below hb')
  have HB5 := Lib.hid (HB4.out.trans (hb'.mono HB4.out.size))
  have HX1d := Lib.hid (HX1c.out.below hb')
  have HX2d := Lib.hid (HX2c.out.below hb')
  have HXG : Hid (XR w5 (some ⟨G, 0, none⟩) (n + m)) := Lib.hid (XR.row hrow (by rw [List.length_append, HN.out, HM.out]))
  have HGB : Hid (w4.heap.size ≤ G ∧ w.heap.size ≤ G) := Lib.hid ⟨hGw, Nat.le_trans HB4.out.size hGw⟩
  have HS5 : Hid (w2.heap.size ≤ w4.heap.size) := Lib.hid (by have := HH4.out.lo.2; omega)
  clear hG hrow hb hGw hb' K3 K4 HB4 HX1c HX2c HH4
  go_wp2_with fail
  go_loopw [11] (fun u wr => ∃ q : Nat, u = .int .i64 q ∧ q ≤ n + m ∧ Hid (Bump w5 (some ⟨G, 0, none⟩) (n + m) wr)) (fun u _ => n + m - (intOf u).toNat)
  case atStart => exact ⟨0, rfl, Nat.zero_le _, Lib.hid (Bump.start HXG.out)⟩
  case round =>
    obtain ⟨q, rfl, hq, HJ⟩ := hrel
    by_cases hlt : q < n + m
    · obtain ⟨g', v, hg', hc, hf, hnx⟩ := HJ.out.at_ hlt
      injection hg' with hg'
      injection hg' with hg1 _
      subst hg1
      have HNX := Lib.hid hnx
      clear hnx
      have hlt2 : (q : Int) < (n : Int) + m := by omega
      go_wp2_with fail
      go_roundw
      case rel => exact ⟨q + 1, by go_num, by omega, HNX.out _⟩
      case measure => simp [intOf]; omega
    · obtain rfl : q = n + m := by omega
      rename World => wA
      have HH6 := Lib.hid (HJ.out.has HH5.out (fun g e => by injection e with e; injection e with e1 e2; have := HGB.out.1; omega))
      have HB6 := Lib.hid (HB5.out.trans (HJ.out.below (fun g e => by injection e with e; injection e with e1 e2; have := HGB.out.2; omega)))
      have HX1e := Lib.hid (HJ.out.xr HX1d.out (fun g g' e e' => by injection e with e; injection e with e1 e2; have := HL1.out g' 0 e'; have := HGB.out.1; have := HS5.out; omega))
      have HX2e := Lib.hid (HJ.out.xr HX2d.out (fun g g' e e' => by injection e with e; injection e with e1 e2; have := HL2.out g' 0 e'; have := HGB.out.1; have := HS5.out; omega))
      clear HJ HXG HB5 HH5 HX1d HX2d
      go_wp2_with fail
      go_loopw [12] (fun u wr => ∃ q : Nat, u = .int .i64 q ∧ q ≤ n ∧ Hid (Bump wA D1 n wr)) (fun u _ => n - (intOf u).toNat)
      case atStart => exact ⟨0, rfl, Nat.zero_le _, Lib.hid (Bump.start HX1e.out)⟩
      case round =>
        obtain ⟨q, rfl, hq, HJ⟩ := hrel
        by_cases hlt : q < n
        · obtain ⟨g', v, hg', hc, hf, hnx⟩ := HJ.out.at_ hlt
          have HNX := Lib.hid hnx
          clear hnx
          subst hg'
          go_wp2_with fail
          go_roundw
          case rel => exact ⟨q + 1, by go_num, by omega, HNX.out _⟩
          case measure => simp [intOf]; omega
        · obtain rfl : q = n := by omega
          rename World => wB
          have HH7 := Lib.hid (HJ.out.has HH6.out (fun g e => .inl (HL1.out g 0 e)))
          have HB7 := Lib.hid (HB6.out.trans (HJ.out.below (fun g e => HLW.out.1 g 0 e)))
          have HX2f := Lib.hid (HJ.out.xr HX2e.out (fun g g' e e' => Ne.symm (HLL.out g g' e e')))
          clear HJ HB6 HH6 HX1e HX2e
          go_wp2_with fail
          go_loopw [13] (fun u wr => ∃ q : Nat, u = .int .i64 q ∧ q ≤ m ∧ Hid (Bump wB D2 m wr)) (fun u _ => m - (intOf u).toNat)
          case atStart => exact ⟨0, rfl, Nat.zero_le _, Lib.hid (Bump.start HX2f.out)⟩
          case round =>
            obtain ⟨p, rfl, hp, HJ⟩ := hrel
            by_cases hlt : p < m
            · obtain ⟨g', v, hg', hc, hf, hnx⟩ := HJ.out.at_ hlt
              have HNX := Lib.hid hnx
              clear hnx
              subst hg'
              go_wp2_with fail
              go_roundw
              case rel => exact ⟨p + 1, by go_num, by omega, HNX.out _⟩
              case measure => simp [intOf]; omega
            · obtain rfl : p = m := by omega
              rename World => wy
              have HH8 := Lib.hid (HJ.out.has HH7.out (fun g e => .inl (HL2.out g 0 e)))
              have HB8 := Lib.hid (HB7.out.trans (HJ.out.below (fun g e => HLW.out.2 g 0 e)))
              clear HJ HB7 HH7 HX2f
              have hb8 : Hid (Below w.heap.size w (wy.alloc (.cells #[] 3))) := Lib.hid (HB8.out.alloc HB8.out.size _)
              have hown8 : (wy.alloc (.cells #[] 3)).ownsRow wy.heap.size 3 1 (.slice (some ⟨wy.heap.size, 0, none⟩) 0 0) 0 [] := World.ownsRow_made wy #[] 0 (Nat.le_refl _) (by simp [maxLen]) rfl
              go_wp2_with (first
                | (at_builtin
                   refine append_src rfl (.tmp 97) (.tmp 98) _ rfl wy.heap.size 3 i0 _ 8 Try.underlying22 hi0 hz0 hz1 hz2 rfl _ 0 [] rfl hown8
                     A q c (iv zs) rfl (by rw [iv_len]; exact HN.out) (HA.out _ hb8.out) (iv_one _) (by simp [maxLen]; omega) (by omega) (by simp) ?_
                   intro v8 w8 hown9 hgrow8
                   have hb9 : Hid (Below w.heap.size w w8) := Lib.hid (hb8.out.grown hgrow8 hb8.out.size (fun j e => Nat.le_trans HB8.out.size (hown8.lt j e).1)))
                | (at_builtin
                   refine append_src rfl (.tmp 99) (.tmp 100) _ rfl wy.heap.size 3 i0 _ 8 Try.underlying22 hi0 hz0 hz1 hz2 rfl v8 (0 + q) ([] ++ iv zs) rfl hown9
                     C p d (iv ms) rfl (by rw [iv_len]; exact HM.out) (HC.out _ hb9.out) (iv_one _) (by simp [maxLen]; omega) (by omega) (by have := hgrow8.size; simp at this; omega) ?_
                   intro v9 w9 hown10 hgrow9))
              have e10 : w9.ownsRow wy.heap.size 3 1 v9 (q + p) (iv (zs ++ ms)) := by simpa [iv] using hown10
              have hbz : Below wy.heap.size wy w9 := (((Below.refl _ wy).alloc (Nat.le_refl _) (.cells #[] 3)).grown hgrow8 (by simp) (fun j e => (hown8.lt j e).1)).grown hgrow9 (by have := hgrow8.size; simp at this; omega) (fun j e => (hown9.lt j e).1)
              obtain ⟨D3, e3, rfl, hrd3, _, _⟩ := own_row (n := q + p) (zs := zs ++ ms) e10 (by rw [List.length_append, HN.out, HM.out])
              have HRD3 := Lib.hid hrd3
              have HH9 := Lib.hid (HH8.out.below hbz)
              have HB9 : Hid (Below w.heap.size w w9) := Lib.hid (HB8.out.trans (hbz.mono HB8.out.size))
              have hlen : Hid ((zs ++ ms).length = q + p) := Lib.hid (by rw [List.length_append, HN.out, HM.out])
              clear hown8 hown9 hown10 hgrow8 hgrow9 e10 hbz hrd3 hb8 hb9 HB8 HH8
              clear HA HC HL1 HL2 HLL HLW HS2 HS5 HGB
              go_loopw [15] (fun u wr => ∃ k : Nat, u = .int .i64 k ∧ k ≤ q + p ∧ ∃ x, wr = w9.drewN x) (fun u _ => q + p - (intOf u).toNat)
              case atStart => exact ⟨0, rfl, Nat.zero_le _, 0, rfl⟩
              case round =>
                obtain ⟨k, rfl, hk, x, rfl⟩ := hrel
                by_cases hlt : k < q + p
                · have hkl : k < (zs ++ ms).length := by rw [hlen.out]; exact hlt
                  have hat := iat_ok (HH9.out.drewN x) k hlt (.int .i64 (zs ++ ms)[k]) (iv_get? _ k hkl)
                  have HAT := Lib.hid hat
                  obtain ⟨a3, o3, rfl, _, hc3⟩ := HRD3.out k (by rw [iv_len]; exact hkl)
                  have ee : (iv (zs ++ ms))[k]'(by rw [iv_len]; exact hkl) = .int .i64 (zs ++ ms)[k] := iv_get _ k hkl _
                  rw [ee] at hc3
                  have hlt2 : (k : Int) < (q : Int) + p := by omega
                  clear hat ee
                  generalize (zs ++ ms)[k] = v at *
                  go_wp2_with fail
                  refine HAT.out.mono ?_
                  rintro r w' ⟨rfl, x2, rfl⟩
                  go_wp2_with fail
                  go_roundw
                  case rel => exact ⟨k + 1, by go_num, by omega, _, rfl⟩
                  case measure => simp [intOf]; omega
                · obtain rfl : k = q + p := by omega
                  go_wp2_with fail
                  refine (HL.out _).mono ?_
                  rintro r w10 ⟨rfl, hb10⟩
                  have HB10 : Hid (Below w.heap.size w w10) := Lib.hid (HB9.out.trans ((show Below w9.heap.size w9 w10 from ⟨hb10.os, hb10.tape, hb10.output, hb10.size, hb10.block⟩).mono HB9.out.size))
                  clear hb10
                  go_wp2_with fail
                  go_ret
                  exact ⟨rfl, HB10.out⟩
theorem law4_any (hL : LivesOk) (A C : Option Addr) (c d : Nat) (zs ms : List Int) (w : World) (hr : RdV w w.heap.size A (iv zs)) (hr2 : RdV w w.heap.size C (iv ms)) (hl : zs.length ≤ 9223372036854775807) (hl2 : ms.length ≤ 9223372036854775807) (hA : A = none → c = 0) (hC : C = none → d = 0) :
    Calls Try.prog 4 #[.slice A zs.length c, .slice C ms.length d] w fun e w' => e = .returned (.bool true) ∧ Below w.heap.size w w' := by
  rcases Nat.lt_or_ge 40 zs.length with h | h
  · exact law4_long hL A C _ c _ d w (.inl h) hl hl2
  · rcases Nat.lt_or_ge 20 ms.length with h2 | h2
    · exact law4_long hL A C _ c _ d w (.inr ⟨h, h2⟩) hl hl2
    · exact law4_ok hL A C _ c _ d zs ms w hr hr2 rfl rfl h h2 hA hC
end Go.Proofs.Ytecoobeddjfegaa
