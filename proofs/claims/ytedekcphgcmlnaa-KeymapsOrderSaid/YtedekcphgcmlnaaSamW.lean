/- The law's same: a map has the pairs of a list. -/
import Derived.Test.YtedekcphgcmlnaaLivW
import Derived.Test.YtedekcphgcmlnaaPaiC
namespace Go.Proofs.Ytedekcphgcmlnaa
open Go.RowKit

theorem Keyd.read {L : PL} {w w' : World} {e : Ending} (h : Keyd L w e w') : ∃ A, e = .returned (.slice A L.length L.length) ∧ Below w.heap.size w w' ∧
    (∀ W, Below w'.heap.size w' W → ∀ i (hi : i < L.length), ∃ g, A = some ⟨g, 0, none⟩ ∧ W.cell? ⟨g, i, none⟩ = some (.int .u64 L[i].1)) := by
  obtain ⟨⟨rfl, rfl⟩ | ⟨g, rfl, hu, _⟩, hb⟩ := h
  · exact ⟨none, rfl, hb, fun W _ i hi => absurd hi (by simp)⟩
  · refine ⟨_, rfl, hb, fun W hW i hi => ⟨g, rfl, ?_⟩⟩
    have hgl := heap_lt hu
    refine RU.cell (hu.keep (hW.block g hgl)) ?_
    rw [List.getElem?_map, List.getElem?_eq_getElem hi]
    rfl
theorem asc_at {L : PL} (hA : Asc L) {i : Nat} (hi : i < L.length) : hasK L L[i].1 = true ∧ valK L L[i].1 = L[i].2 := has_of hA (List.getElem_mem hi)
theorem max_int (a b : Int) : (if a < b then b else a) = max a b := by omega
set_option maxRecDepth 100000 in
set_option maxHeartbeats 8000000 in
theorem same_any {N : Nat} (hS : SortU N) {w : World} {b s M most : Nat} {S : List Sl} {L : PL} (h : Mp w b s S) (hg : Good S L M) (hN : L.length ≤ N) {A : Option Addr} {c : Nat} (hl : SlR w A c L) (hm : M ≤ most) (hm2 : most ≤ 100000) :
    Calls Try.prog 17 #[.pointer (some ⟨b, 0, none⟩), .slice A L.length c, .int .i64 most] w (Yes w) := by
  have C1 := Lib.hid (keys_any hS h hg hN)
  have hlong := hg.long
  have hroom := hg.room
  have hsize := hg.size
  have HM := Lib.hid h
  have HG := Lib.hid hg
  have HL := Lib.hid hl
  have hlim := hg.lim
  have hlen := hg.len
  clear h hg hl hS
  go_enter Try.func17, Try.ntmps17
  go_wp2_with fail
  refine C1.out.mono ?_
  intro e w1 hk
  obtain ⟨KA, rfl, hb1, hkr⟩ := hk.read
  have HB1 := Lib.hid hb1
  have HK := Lib.hid hkr
  have C2 := Lib.hid (slots_any (HM.out.next hb1))
  have C3' := len_any (HM.out.next hb1)
  rw [hlen] at C3'
  have C3 := Lib.hid C3'
  have C4 := Lib.hid (tombs_any (HM.out.next hb1))
  clear C1 hk hb1 hkr hlen C3'
  have z0 : decide ((tms S : Int) < 0) = false := by simp
  have z1 : decide (3 * (S.length : Int) < 4 * ((L.length : Int) + (tms S : Int))) = false := by simp; omega
  obtain ⟨mx, hmx, hmx2⟩ : ∃ mx : Int, (if (8 : Int) < 8 * (most : Int) then 8 * (most : Int) else 8) = mx ∧ (S.length : Int) ≤ mx := ⟨_, rfl, by split <;> omega⟩
  have z2 : decide (mx < (S.length : Int)) = false := by simp; omega
  obtain ⟨v0, hv0, HV⟩ : ∃ v0 : Bool, ((S.length : Int) == 0) = v0 ∧ Hid (S.length = 0 ∨ (∃ i, i < 3 ∧ S.length = 2 ^ i) → v0 = true) := ⟨_, rfl, Lib.hid (by
    rintro (h | ⟨i, h1, h2⟩)
    · simp [h]
    · rcases HG.out.pow with h | ⟨q, h3, _, h4⟩
      · simp [h]
      · have : 2 ^ 3 ≤ 2 ^ q := Nat.pow_le_pow_right (by decide) h3
        have : 2 ^ i < 2 ^ 3 := Nat.pow_lt_pow_right (by decide) h1
        omega)⟩
  go_wp2_with fail
  refine C2.out.mono ?_
  rintro e w2 ⟨rfl, rfl⟩
  rename World => W
  go_wp2_with fail
  refine C3.out.mono ?_
  rintro e w2 ⟨rfl, rfl⟩
  rename World => W
  go_wp2_with fail
  refine C4.out.mono ?_
  rintro e w2 ⟨rfl, rfl⟩
  rename World => W
  go_wp2_with fail
  refine C3.out.mono ?_
  rintro e w2 ⟨rfl, rfl⟩
  rename World => W
  go_wp2_with fail
  refine C4.out.mono ?_
  rintro e w2 ⟨rfl, rfl⟩
  rename World => W
  clear C2 C3 C4
  go_upto_region 6 with fail
  clear z0 z1 z2 hmx hmx2
  go_wp2_with fail
  go_loopw [9, 10] (fun v p wr => ∃ (j P : Nat) (q : Bool), v = .bool q ∧ p = .int .i64 P ∧ Hid (P = 2 ^ j) ∧ 3 ≤ j ∧ j ≤ 17 ∧ 8 ≤ P ∧ P ≤ 131072 ∧ Hid (S.length = 0 ∨ (∃ i, i < j ∧ S.length = 2 ^ i) → q = true) ∧ W = wr) (fun _ p _ => 131072 - (intOf p).toNat)
  case atStart => exact ⟨3, 8, v0, rfl, rfl, Lib.hid (by decide), by omega, by omega, by omega, by omega, HV, rfl⟩
  case round =>
    obtain ⟨j, P, q, rfl, rfl, HP, hj, hj2, hP1, hP2, HQ, rfl⟩ := hrel
    by_cases hlt : P ≤ 65536
    · have hlt2 : (P : Int) ≤ 65536 := by omega
      have hj3 : j + 1 ≤ 17 := by
        rcases Nat.lt_or_ge j 17 with h | h
        · omega
        · have : 2 ^ 17 ≤ 2 ^ j := Nat.pow_le_pow_right (by decide) h
          have e := HP.out
          have e2 : 2 ^ 17 = 131072 := by decide
          omega
      have HP2 : Hid (P * 2 = 2 ^ (j + 1)) := Lib.hid (by rw [HP.out, Nat.pow_succ])
      cases q with
      | true =>
        go_wp2_with fail
        go_roundw
        case rel => exact ⟨j + 1, P * 2, true, rfl, by rw [Int.natCast_mul, Int.mul_comm]; rfl, HP2, by omega, hj3, by omega, by omega, Lib.hid (fun _ => rfl), trivial⟩
        case measure => simp [intOf]; omega
      | false =>
        by_cases he : P = S.length
        · have he2 : ((P : Int) == (S.length : Int)) = true := by rw [he]; simp
          have HE := Lib.hid he
          clear he
          go_wp2_with fail
          go_roundw
          case rel => exact ⟨j + 1, P * 2, true, rfl, by rw [HE.out, Int.natCast_mul, Int.mul_comm]; rfl, HP2, by omega, hj3, by omega, by omega, Lib.hid (fun _ => rfl), trivial⟩
          case measure => simp [intOf]; omega
        · have he2 : ((P : Int) == (S.length : Int)) = false := by simp; omega
          have HQ2 : Hid (S.length = 0 ∨ (∃ i, i < j + 1 ∧ S.length = 2 ^ i) → false = true) := Lib.hid (by
            rintro (h | ⟨i, h1, h2⟩)
            · exact HQ.out (.inl h)
            · rcases Nat.lt_succ_iff_lt_or_eq.1 h1 with h3 | rfl
              · exact HQ.out (.inr ⟨i, h3, h2⟩)
              · exact absurd (HP.out.trans h2.symm) he)
          go_wp2_with fail
          go_roundw
          case rel => exact ⟨j + 1, P * 2, false, rfl, by rw [Int.natCast_mul, Int.mul_comm]; rfl, HP2, by omega, hj3, by omega, by omega, HQ2, trivial⟩
          case measure => simp [intOf]; omega
    · have hlt2 : ¬ ((P : Int) ≤ 65536) := by omega
      obtain rfl : q = true := HQ.out (by
        rcases HG.out.pow with h | ⟨i, h1, h2, h3⟩
        · exact .inl (by rw [h]; rfl)
        · refine .inr ⟨i, ?_, h3⟩
          rcases Nat.lt_or_ge i j with h | h
          · exact h
          · have : 2 ^ j ≤ 2 ^ i := Nat.pow_le_pow_right (by decide) h
            have e := HP.out
            omega)
      clear HQ HP
      go_wp2_with fail
      go_loopw [11] (fun v wr => ∃ i : Nat, v = .int .i64 i ∧ i ≤ L.length ∧ Hid (Below W.heap.size W wr)) (fun v _ => L.length - (intOf v).toNat)
      case atStart => exact ⟨0, rfl, Nat.zero_le _, Lib.hid (Below.refl _ _)⟩
      case round =>
        obtain ⟨i, rfl, hi, HU⟩ := hrel
        by_cases hlt : i < L.length
        · have hlt3 : (i : Int) < (L.length : Int) := by omega
          have hU2 : Below w.heap.size w wr := HB1.out.trans (HU.out.mono HB1.out.size)
          obtain ⟨h1, h2⟩ := asc_at HG.out.asc hlt
          have hget := get_any (HM.out.next hU2) HG.out L[i].1
          rw [h1, h2] at hget
          have hsl := HL.out.below hU2
          obtain ⟨b0, o, rfl, hb0, c0, c1⟩ := hsl.rd i hlt
          have HK2 := Lib.hid (fun W2 (hW : Below W.heap.size W W2) => HK.out W2 hW i hlt)
          have HSL := Lib.hid hsl.rd
          have HR2 := Lib.hid (fun W2 (hW : Below wr.heap.size wr W2) => (show W2.cell? ⟨b0, o + i * 2, none⟩ = some (.int .u64 L[i].1) ∧ W2.cell? ⟨b0, o + i * 2 + 1, none⟩ = some (.int .i64 L[i].2) from ⟨(hW.cell (p := ⟨b0, _, none⟩) hb0).trans c0, (hW.cell (p := ⟨b0, _, none⟩) hb0).trans c1⟩))
          have hle := HL.out.le
          have hmx := HL.out.max
          obtain ⟨p, hp⟩ : ∃ p, L[i].1 = p := ⟨_, rfl⟩
          obtain ⟨q, hq⟩ : ∃ q, L[i].2 = q := ⟨_, rfl⟩
          rw [hp] at hget c0 HK2 HR2
          rw [hq] at hget c1 HR2
          have HG2 := Lib.hid hget
          clear hp hq h1 h2 hget hU2 hsl hb0 HSL
          go_wp2_with fail
          refine HG2.out.mono ?_
          rintro e w2 ⟨rfl, hb2⟩
          have hU3 : Below W.heap.size W w2 := HU.out.trans (hb2.mono HU.out.size)
          obtain ⟨g, hgA, k0⟩ := HK2.out w2 hU3
          obtain ⟨e0, e1⟩ := HR2.out w2 hb2
          subst hgA
          have HU3 := Lib.hid hU3
          clear hb2 hU3 c0 c1 HG2 HK2 HR2
          go_upto_region 14 with fail
          go_quiet (fail)
          go_wp2_with fail
          go_roundw
          case rel => exact ⟨i + 1, by rfl, by omega, Lib.hid (HU3.out.trans ((below_drewN _ _).mono HU3.out.size))⟩
          case measure => simp [intOf]; omega
        · have hlt3 : ¬ ((i : Int) < (L.length : Int)) := by omega
          go_wp2_with fail
          go_ret
          exact ⟨rfl, HB1.out.trans (HU.out.mono HB1.out.size)⟩
end Go.Proofs.Ytedekcphgcmlnaa
