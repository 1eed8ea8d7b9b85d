/- The reference: Moves. -/
import Derived.Test.YtejgcpohdbiaoaaRefK
import Derived.Test.YtejgcpohdbiaoaaMvsW
namespace Go.Proofs.Ytejgcpohdbiaoaa
open Go.RowKit

/-- what the reference's Moves hands back -/
def RowRS (l : List (Int × Int)) (w : World) (e : Ending) (w' : World) : Prop := ∃ A c, e = .returned (.slice A l.length c) ∧ SlP w' A c l ∧ Below w.heap.size w w'
theorem rowRS_own {l : List (Int × Int)} {w W : World} {base : Nat} {v : Value} (h : OwP 52 W base v l) (hb : Below w.heap.size w W) : RowRS l w (.returned v) W := by
  obtain ⟨A, c, rfl, hs⟩ := h.sl
  exact ⟨A, c, rfl, hs, hb⟩
structure RmI (w0 wr : World) (v : Value) (l : List (Int × Int)) : Prop where
  own : OwP 52 wr w0.heap.size v l
  u : Below w0.heap.size w0 wr
theorem RmI.next {w0 wr w' : World} {v : Value} {l : List (Int × Int)} (h : RmI w0 wr v l) (hb : Below wr.heap.size wr w') : RmI w0 w' v l := ⟨own_next h.own hb, h.u.trans (hb.mono h.u.size)⟩
theorem mvD_short (now : List Int) (K : List Nat) (r : Nat) : (mvD now K r).length ≤ now.length := by
  unfold mvD
  have : ∀ j, (mvJ now K j).length ≤ j := fun j => by
    induction j with
    | zero => simp [mvJ]
    | succ j ih => simp only [mvJ, List.length_append]; split <;> simp <;> omega
  have := this (now.length - r)
  omega
set_option maxRecDepth 100000 in
set_option maxHeartbeats 4000000 in
theorem refMoves_any {w : World} {A B : Option Addr} {c d : Nat} {old now : List Int} (ha : SlI w A c old) (hb : SlI w B d now) (ho : Ord now) :
    Calls Try.prog 18 #[.slice A old.length c, .slice B now.length d] w (RowRS (movesL old now) w) := by
  have hl := ho.len
  have HB := Lib.hid hb.rd
  have HK := Lib.hid (refKept_any ha hb ho.len)
  have e2 : Hid (movesL old now = mvD now (keptP old now) 0) := Lib.hid (by unfold mvD movesL; rfl)
  have hkm : ∀ q (h : q < now.length), now[q] ∈ keptL old now ↔ q ∈ keptP old now := fun q h => kept_mem ho.nd h (kept_ok old now).2
  have HKM := Lib.hid hkm
  clear ha hb hkm
  go_enter Try.func18, Try.ntmps18
  go_wp2_with fail
  refine HK.out.mono ?_
  rintro e w1 ⟨A1, c1, rfl, hs1, hu1⟩
  have HS1 := Lib.hid hs1
  have HU1 := Lib.hid hu1
  have hk1 := hs1.le
  have hk2 := hs1.max
  generalize hST : keptL old now = ST at *
  generalize hKK : keptP old now = K at *
  have H0 : Hid (RmI w1 w1 (.slice none 0 0) (mvD now K now.length)) := Lib.hid ⟨by
    have : mvD now K now.length = [] := by unfold mvD; rw [Nat.sub_self]; rfl
    rw [this]; exact World.ownsRow_nil w1 _ 52 2, Below.refl _ _⟩
  clear hs1 hu1 HK hST hKK
  go_wp2_with fail
  go_loopw [6, 7] (fun o v wr => ∃ r : Nat, r ≤ now.length ∧ v = .int .i64 ((r : Int) - 1) ∧ Hid (RmI w1 wr o (mvD now K r))) (fun _ v _ => (intOf v + 1).toNat)
  case atStart => exact ⟨now.length, Nat.le_refl _, rfl, H0⟩
  case round =>
    clear H0
    obtain ⟨r, hr, rfl, HI⟩ := hrel
    rcases Nat.eq_zero_or_pos r with rfl | hp
    · rw [show ((0 : Nat) : Int) - 1 = -1 from rfl]
      go_wp2_with fail
      go_ret
      rw [e2.out]
      exact rowRS_own HI.out.own (HU1.out.trans (HI.out.u.mono HU1.out.size))
    · obtain ⟨q, rfl⟩ : ∃ q, r = q + 1 := ⟨r - 1, by omega⟩
      have hq : ((q + 1 : Nat) : Int) - 1 = (q : Int) := by omega
      have hlt : q < now.length := by omega
      rw [hq]
      have hrd := HB.out.below (HU1.out.trans (HI.out.u.mono HU1.out.size))
      obtain ⟨b, o, rfl, _, hc⟩ := hrd q hlt
      have HAt := Lib.hid (at_any (w := wr) c1 (((HS1.out.rd.below HI.out.u).more HI.out.u.size)) HS1.out.len now[q])
      have hkq := HKM.out q hlt
      have hyes := @mvD_yes now K q hlt
      have hno := @mvD_no now K q hlt
      have hshort := mvD_short now K (q + 1)
      obtain ⟨x, hx⟩ : ∃ x, now[q] = x := ⟨_, rfl⟩
      rw [hx] at hc HAt hkq hno
      clear hx hq
      by_cases hqn : q + 1 < now.length
      · obtain ⟨b2, o2, e3, _, hcy⟩ := hrd (q + 1) hqn
        injection e3 with e3
        injection e3 with e3 e4
        subst e3; subst e4
        have hgd : now.getD (q + 1) (-1) = now[q + 1] := getD_in hqn (-1)
        rw [hgd] at hno
        obtain ⟨y, hy⟩ : ∃ y, now[q + 1] = y := ⟨_, rfl⟩
        rw [hy] at hcy hno
        have hlt2 : (q : Int) < (now.length : Int) - 1 := by omega
        clear hrd hgd hy
        by_cases hK : q ∈ K
        · skip
          have HN : Hid (RmI w1 wr u6 (mvD now K q)) := Lib.hid (by rw [hyes hK]; exact HI.out)
          have hneg : ¬ (atL ST x < 0) := fun h => atL_neg.1 h (hkq.2 hK)
          generalize atL ST x = t at *
          clear hkq hyes hno hK
          go_wp2_with fail
          refine HAt.out.mono ?_
          rintro e w3 ⟨rfl, rfl⟩
          go_wp2_with fail
          go_roundw
          case rel => exact ⟨q, by omega, rfl, HN⟩
          case measure => first | (simp [intOf]; done) | (simp [intOf]; omega)
        · skip
          have HNO := Lib.hid (hno hK)
          have hneg : atL ST x < 0 := atL_neg.2 (fun h => hK (hkq.1 h))
          generalize atL ST x = t at *
          clear hkq hyes hno hK
          go_wp2_with fail
          refine HAt.out.mono ?_
          rintro e w3 ⟨rfl, rfl⟩
          rename World => wr
          have HI2 := Lib.hid (HI.out.next (below_new wr (.cells #[.int .i64 x, .int .i64 y] 52)))
          have hk0 := Lib.hid (pair_new wr 52 x y)
          go_wp2_with (
            at_builtin
            refine wp_appR rfl (.tmp 36) (.tmp 43) rfl w1.heap.size _ (mvD now K (q + 1)) rfl HI2.out.own wr.heap.size 1 x y rfl hk0.out.1 hk0.out.2 (by omega) HI2.out.u.size ?_
            intro v3 w3 H3 B3)
          have HN : Hid (RmI w1 w3 v3 (mvD now K q)) := Lib.hid ⟨by rw [HNO.out]; exact H3.out, HI2.out.u.trans B3.out⟩
          clear H3 B3 HI2
          go_roundw
          case rel => exact ⟨q, by omega, rfl, HN⟩
          case measure => first | (simp [intOf]; done) | (simp [intOf]; omega)
      · have hgd : now.getD (q + 1) (-1) = -1 := by rw [List.getD_eq_getElem?_getD, List.getElem?_eq_none (by omega)]; rfl
        rw [hgd] at hno
        have hlt2 : ¬ ((q : Int) < (now.length : Int) - 1) := by omega
        clear hrd hgd
        by_cases hK : q ∈ K
        · skip
          have HN : Hid (RmI w1 wr u6 (mvD now K q)) := Lib.hid (by rw [hyes hK]; exact HI.out)
          have hneg : ¬ (atL ST x < 0) := fun h => atL_neg.1 h (hkq.2 hK)
          generalize atL ST x = t at *
          clear hkq hyes hno hK
          go_wp2_with fail
          refine HAt.out.mono ?_
          rintro e w3 ⟨rfl, rfl⟩
          go_wp2_with fail
          go_roundw
          case rel => exact ⟨q, by omega, rfl, HN⟩
          case measure => first | (simp [intOf]; done) | (simp [intOf]; omega)
        · skip
          have HNO := Lib.hid (hno hK)
          have hneg : atL ST x < 0 := atL_neg.2 (fun h => hK (hkq.1 h))
          generalize atL ST x = t at *
          clear hkq hyes hno hK
          go_wp2_with fail
          refine HAt.out.mono ?_
          rintro e w3 ⟨rfl, rfl⟩
          rename World => wr
          have HI2 := Lib.hid (HI.out.next (below_new wr (.cells #[.int .i64 x, .int .i64 (-1)] 52)))
          have hk0 := Lib.hid (pair_new wr 52 x (-1))
          go_wp2_with (
            at_builtin
            refine wp_appR rfl (.tmp 36) (.tmp 43) rfl w1.heap.size _ (mvD now K (q + 1)) rfl HI2.out.own wr.heap.size 1 x (-1) rfl hk0.out.1 hk0.out.2 (by omega) HI2.out.u.size ?_
            intro v3 w3 H3 B3)
          have HN : Hid (RmI w1 w3 v3 (mvD now K q)) := Lib.hid ⟨by rw [HNO.out]; exact H3.out, HI2.out.u.trans B3.out⟩
          clear H3 B3 HI2
          go_roundw
          case rel => exact ⟨q, by omega, rfl, HN⟩
          case measure => first | (simp [intOf]; done) | (simp [intOf]; omega)
end Go.Proofs.Ytejgcpohdbiaoaa
