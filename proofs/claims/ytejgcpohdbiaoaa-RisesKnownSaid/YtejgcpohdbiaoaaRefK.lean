/- The reference: Kept. -/
import Derived.Test.YtejgcpohdbiaoaaRefL
import Derived.Test.YtejgcpohdbiaoaaRefA
namespace Go.Proofs.Ytejgcpohdbiaoaa
open Go.RowKit

/-- ahead of each round: a row of the call's own so far -/
structure RkI (w0 wr : World) (v : Value) (l : List Int) : Prop where
  own : OwnI wr w0.heap.size v l
  u : Below w0.heap.size w0 wr
theorem RkI.next {w0 wr w' : World} {v : Value} {l : List Int} (h : RkI w0 wr v l) (hb : Below wr.heap.size wr w') : RkI w0 w' v l := ⟨own_next h.own hb, h.u.trans (hb.mono h.u.size)⟩
theorem take_at {l : List Int} {i : Nat} {x : Int} (h : l[i]? = some x) : l.take (i + 1) = l.take i ++ [x] := by
  obtain ⟨hi, e⟩ := List.getElem?_eq_some_iff.1 h
  rw [List.take_succ_eq_append_getElem hi, e]
set_option maxRecDepth 100000 in
set_option maxHeartbeats 4000000 in
theorem refKept_any {w : World} {A B : Option Addr} {c d : Nat} {old now : List Int} (ha : SlI w A c old) (hb : SlI w B d now) (hl : now.length ≤ 4096) :
    Calls Try.prog 16 #[.slice A old.length c, .slice B now.length d] w (RowR (keptL old now) w) := by
  have HB := Lib.hid hb.rd
  have HA := Lib.hid ha
  have H0 : Hid (RkI w w (.slice none 0 0) ((posL old now).take 0)) := Lib.hid ⟨own_nil _ _, Below.refl _ _⟩
  clear ha hb
  go_enter Try.func16, Try.ntmps16
  go_wp2_with fail
  go_loopw [5, 6] (fun o v wr => ∃ i : Nat, i ≤ now.length ∧ v = .int .i64 i ∧ Hid (RkI w wr o ((posL old now).take i))) (fun _ v _ => now.length - (intOf v).toNat)
  case atStart => exact ⟨0, Nat.zero_le _, rfl, H0⟩
  case round =>
    clear H0
    obtain ⟨i, hi, rfl, HI⟩ := hrel
    by_cases hlt : i < now.length
    · have hrd := HB.out.below HI.out.u
      obtain ⟨b, o, rfl, _, hc⟩ := hrd i hlt
      have hp : (posL old now)[i]? = some (atL old now[i]) := by simp [posL, hlt]
      obtain ⟨x, hx⟩ : ∃ x, now[i] = x := ⟨_, rfl⟩
      rw [hx] at hc hp
      have HT := Lib.hid (take_at hp)
      have HAt := Lib.hid (at_any (w := wr) c (((HA.out.rd.below HI.out.u).more HI.out.u.size)) HA.out.len x)
      have hl0 : ((posL old now).take i).length ≤ 4096 := by rw [List.length_take]; omega
      obtain ⟨y, hy⟩ : ∃ y, atL old x = y := ⟨_, rfl⟩
      rw [hy] at HT HAt
      have HI2 := Lib.hid (HI.out.next (below_new wr (.cells #[.int .i64 y] 3)))
      have HS1 := Lib.hid (sl_one wr y)
      have HL := Lib.hid hl0
      clear hrd hp hx hy hl0
      go_wp2_with fail
      refine HAt.out.mono ?_
      rintro e w3 ⟨rfl, rfl⟩
      rename World => wr
      go_wp2_with (
        at_builtin
        refine wp_app rfl (.tmp 16) (.tmp 23) rfl w.heap.size _ ((posL old now).take i) rfl _ 1 [y] 1 rfl rfl HI2.out.own HS1.out (by have := HL.out; simp only [List.length_singleton]; omega) HI2.out.u.size ?_
        intro v3 w3 H3 B3 G3)
      have HN : Hid (RkI w w3 v3 ((posL old now).take (i + 1))) := Lib.hid ⟨by rw [HT.out]; exact H3.out, HI2.out.u.trans B3.out⟩
      clear H3 B3 G3 HI2
      go_roundw
      case rel => exact ⟨i + 1, by omega, by go_num, HN⟩
      case measure => first | (simp [intOf]; done) | (simp [intOf]; omega)
    · obtain rfl : i = now.length := by omega
      have hown := HI.out.own
      have hpl := posL_len old now
      rw [List.take_of_length_le (by omega)] at hown
      obtain ⟨A1, c1, rfl, hs⟩ := hown.sl
      have HLg := Lib.hid (refLongest_any hs (by omega))
      have HU := Lib.hid HI.out.u
      clear hown hs HI hlt hpl
      go_wp2_with fail
      refine HLg.out.mono ?_
      rintro e w2 ⟨A2, c2, rfl, hs2, hu2⟩
      have HS2 := Lib.hid hs2
      have HU2 := Lib.hid (HU.out.trans (hu2.mono HU.out.size))
      have HK2 : Hid (∀ k ∈ keptP old now, k < now.length) := Lib.hid (kept_ok old now).2
      have hK4 : (keptP old now).length ≤ 4096 := by have := moves_len old now; omega
      have hm2 := hs2.max
      have hle2 := hs2.le
      have hK : longR (posL old now) = keptP old now := rfl
      rw [hK] at HS2 hle2 ⊢
      have H0 : Hid (RkI w2 w2 (.slice none 0 0) ((keptL old now).take 0)) := Lib.hid ⟨own_nil _ _, Below.refl _ _⟩
      have hnl := nats_len (keptP old now)
      have HNL := Lib.hid hnl
      rw [hnl] at hle2 ⊢
      clear hs2 hu2 HLg HU hK hnl
      go_wp2_with fail
      go_loopw [8, 9] (fun o v wk => ∃ i : Nat, i ≤ (keptP old now).length ∧ v = .int .i64 i ∧ Hid (RkI w2 wk o ((keptL old now).take i))) (fun _ v _ => (keptP old now).length - (intOf v).toNat)
      case atStart => exact ⟨0, Nat.zero_le _, rfl, H0⟩
      case round =>
        clear H0
        obtain ⟨i, hi, rfl, HI⟩ := hrel
        by_cases hlt : i < (keptP old now).length
        · have hrd := HS2.out.rd.below HI.out.u
          obtain ⟨b, o, rfl, _, hc⟩ := hrd i (by rw [HNL.out]; exact hlt)
          have hz : (nats (keptP old now))[i]'(by rw [HNL.out]; exact hlt) = ((keptP old now)[i] : Nat) := by simp [nats]
          rw [hz] at hc
          have hp : (keptP old now)[i] < now.length := HK2.out _ (List.getElem_mem hlt)
          have hkx : (keptL old now)[i]? = some (now[(keptP old now)[i]]) := by
            unfold keptL
            rw [List.getElem?_map, List.getElem?_eq_getElem hlt]
            show some (now.getD _ 0) = _
            rw [getD_in hp]
          have hrd2 := HB.out.below (HU2.out.trans (HI.out.u.mono HU2.out.size))
          obtain ⟨b2, o2, rfl, _, hc2⟩ := hrd2 _ hp
          generalize (keptP old now)[i] = p at *
          obtain ⟨x, hx⟩ : ∃ x, now[p] = x := ⟨_, rfl⟩
          rw [hx] at hc2 hkx
          have HT := Lib.hid (take_at hkx)
          have hl0 : ((keptL old now).take i).length ≤ 4096 := by rw [List.length_take]; omega
          have HI2 := Lib.hid (HI.out.next (below_new _ (.cells #[.int .i64 x] 3)))
          have HS1 := Lib.hid (sl_one wr x)
          have HL := Lib.hid hl0
          clear hrd hz hkx hrd2 hx hl0
          go_wp2_with (
            at_builtin
            refine wp_app rfl (.tmp 33) (.tmp 41) rfl w2.heap.size _ ((keptL old now).take i) rfl _ 1 [x] 1 rfl rfl HI2.out.own HS1.out (by have := HL.out; simp only [List.length_singleton]; omega) HI2.out.u.size ?_
            intro v3 w3 H3 B3 G3)
          have HN : Hid (RkI w2 w3 v3 ((keptL old now).take (i + 1))) := Lib.hid ⟨by rw [HT.out]; exact H3.out, HI2.out.u.trans B3.out⟩
          clear H3 B3 G3 HI2
          go_roundw
          case rel => exact ⟨i + 1, by omega, by go_num, HN⟩
          case measure => first | (simp [intOf]; done) | (simp [intOf]; omega)
        · obtain rfl : i = (keptP old now).length := by omega
          have hown := HI.out.own
          rw [List.take_of_length_le (by simp [keptL])] at hown
          have HO := Lib.hid hown
          clear hown
          go_wp2_with fail
          go_ret
          exact rowR_own HO.out (HU2.out.trans (HI.out.u.mono HU2.out.size))
end Go.Proofs.Ytejgcpohdbiaoaa
