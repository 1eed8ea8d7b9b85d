/- The walks of O's Of and Pairs. -/
import Derived.Test.YtedekcphgcmlnaaOpT
import Derived.Test.YtedekcphgcmlnaaSamW
namespace Go.Proofs.Ytedekcphgcmlnaa
open Go.RowKit

def stepL (L : PL) (s : St) : PL := if s.drop then (dropL L s.key).1 else (putL L s.key s.v).1
def prsT (xs : List St) (i : Nat) : PL := (xs.take i).foldl stepL []
theorem put_len (L : PL) (k v : Int) : (putL L k v).1.length ≤ L.length + 1 := by
  have h := atI_le L k
  unfold putL
  split
  · exact Nat.le_succ _
  split
  · exact Nat.le_succ _
  · simp only [List.length_append, List.length_take, List.length_cons, List.length_drop]
    split <;> omega
theorem drop_len (L : PL) (k : Int) : (dropL L k).1.length ≤ L.length := by
  have h := atI_le L k
  unfold dropL
  split
  · simp only [List.length_append, List.length_take, List.length_drop]
    omega
  · exact Nat.le_refl _
theorem prsT_succ {xs : List St} {i : Nat} (h : i < xs.length) : prsT xs (i + 1) = stepL (prsT xs i) xs[i] := by
  unfold prsT
  rw [List.take_succ_eq_append_getElem h, List.foldl_append]
  rfl
theorem prsT_len (xs : List St) (i : Nat) : (prsT xs i).length ≤ i := by
  induction i with
  | zero => simp [prsT]
  | succ i ih =>
    rcases Nat.lt_or_ge i xs.length with h | h
    · rw [prsT_succ h]
      unfold stepL
      split
      · exact Nat.le_trans (drop_len _ _) (by omega)
      · exact Nat.le_trans (put_len _ _ _) (by omega)
    · unfold prsT at *
      rw [List.take_of_length_le (by omega)]
      rw [List.take_of_length_le h] at ih
      omega
theorem Lm.base {w0 w1 w : World} {b M : Nat} {L : PL} (h : Lm w1 w b L M) (hb : Below w0.heap.size w0 w1) : Lm w0 w b L M := by
  obtain ⟨s, S, h1, h2, h3, h4, h5⟩ := h
  have := hb.size
  exact ⟨s, S, h1, h2, by omega, by omega, hb.trans (h5.mono hb.size)⟩
theorem Lm.more {w0 w : World} {b M N : Nat} {L : PL} (h : Lm w0 w b L M) (hN : M ≤ N) : Lm w0 w b L N := by
  obtain ⟨s, S, h1, h2, h3⟩ := h
  exact ⟨s, S, h1, h2.more hN, h3⟩
set_option maxRecDepth 100000 in
set_option maxHeartbeats 8000000 in
theorem of_any {w : World} {A : Option Addr} {c : Nat} {xs : List St} (h : SlT w A c xs) :
    Calls Try.prog 18 #[.agg #[.slice A xs.length c]] w fun e w' => ∃ b, e = .returned (.pointer (some ⟨b, 0, none⟩)) ∧ Lm w w' b (prsT xs (min xs.length 80)) 80 := by
  have hb0 := below_alloc w (.cells #[.slice A xs.length c] 45)
  have HX := Lib.hid (h.below hb0)
  have hle := h.le
  have hmx := h.max
  obtain ⟨V, hV⟩ : ∃ V : World, w.alloc (.cells #[.slice A xs.length c] 45) = V := ⟨_, rfl⟩
  obtain ⟨x, hx⟩ : ∃ x : Nat, w.heap.size = x := ⟨_, rfl⟩
  have hvx : V.heap[x]? = some (.cells #[.slice A xs.length c] 45 (0, 0)) := by rw [← hV]; exact new_at _ hx
  rw [hV] at hb0 HX
  have H0 := Lib.hid (lm_new (Below.refl V.heap.size V))
  have HV := Lib.hid hvx
  have HB := Lib.hid hb0
  clear h hb0 hvx
  go_enter Try.func18, Try.ntmps18
  go_upto_region 1 with fail
  clear hV hx
  go_wp2_with fail
  refine H0.out.mono ?_
  rintro e W1 ⟨rfl, _, hl⟩
  have HL := Lib.hid (hl.more (Nat.zero_le 80))
  obtain ⟨b, hb⟩ : ∃ b : Nat, V.heap.size = b := ⟨_, rfl⟩
  rw [hb] at HL ⊢
  clear hl H0 hb
  go_wp2_with fail
  go_loopw [4] (fun v wr => ∃ i : Nat, v = .int .i64 i ∧ i ≤ xs.length ∧ i ≤ 80 ∧ Hid (Lm V wr b (prsT xs i) 80)) (fun v _ => 80 - (intOf v).toNat)
  case atStart => exact ⟨0, rfl, Nat.zero_le _, Nat.zero_le _, HL⟩
  case round =>
    clear HL
    obtain ⟨i, rfl, hi1, hi2, HI⟩ := hrel
    have x0 : wr.cell? ⟨x, 0, none⟩ = some (.slice A xs.length c) := cell_of_row _ _ 0 _ 45 (0, 0) ((HI.out.u.block x (heap_lt HV.out)).trans HV.out)
    by_cases hlt : i < xs.length ∧ i < 80
    · obtain ⟨h1, h2⟩ := hlt
      have h3 : decide ((i : Int) < (xs.length : Int)) = true := by simp; omega
      have h4 : decide ((i : Int) < 80) = true := by simp; omega
      obtain ⟨bb, o, rfl, hbb, c0, c1, c2⟩ := (HX.out.below HI.out.u).rd i h1
      have hst : prsT xs (i + 1) = stepL (prsT xs i) xs[i] := prsT_succ h1
      have hln := prsT_len xs (i + 1)
      have D := lm_drop HI.out xs[i].key
      have P := lm_put (w := wr.drew) (HI.out.next (below_drewN wr 1)) xs[i].key xs[i].v
      obtain ⟨k, hk⟩ : ∃ k, xs[i].key = k := ⟨_, rfl⟩
      obtain ⟨v, hv⟩ : ∃ v, xs[i].v = v := ⟨_, rfl⟩
      obtain ⟨f, hf⟩ : ∃ f, xs[i].drop = f := ⟨_, rfl⟩
      unfold stepL at hst
      rw [hf, hk, hv] at hst
      rw [hk] at c0 D P
      rw [hv] at c1 P
      rw [hf] at c2
      have HBB := Lib.hid hbb
      clear hk hv hf hbb
      cases f with
      | true =>
        have HS := Lib.hid (show prsT xs (i + 1) = _ from hst)
        have HD := Lib.hid D
        clear hst D P hln
        go_wp2_with fail
        refine HD.out.mono ?_
        rintro e W2 ⟨rfl, hx⟩
        have HN : Hid (Lm V W2 b (prsT xs (i + 1)) 80) := Lib.hid (by rw [HS.out]; exact hx)
        clear hx HD
        go_wp2_with fail
        go_roundw
        case rel => exact ⟨i + 1, by rfl, by omega, by omega, HN⟩
        case measure => simp [intOf]; omega
      | false =>
        have HS := Lib.hid (show prsT xs (i + 1) = _ from hst)
        have HP := Lib.hid P
        have HLN := Lib.hid hln
        clear hst D P hln
        go_upto_region 7 with fail
        go_still_tail 13, (by kernel_rfl)
        change wpList _ _ _ _ _ wr.drew
        go_wp2_with fail
        refine HP.out.mono ?_
        rintro e W2 ⟨rfl, hx⟩
        have HN : Hid (Lm V W2 b (prsT xs (i + 1)) 80) := Lib.hid (by
          rw [HS.out]
          have := HLN.out
          rw [HS.out] at this
          exact hx.more (by
            show max 80 (putL (prsT xs i) k v).1.length ≤ 80
            have : (putL (prsT xs i) k v).1.length ≤ i + 1 := this
            omega))
        clear hx HP
        go_wp2_with fail
        go_roundw
        case rel => exact ⟨i + 1, by rfl, by omega, by omega, HN⟩
        case measure => simp [intOf]; omega
    · have hm : i = min xs.length 80 := by omega
      have HN : Hid (Lm V wr b (prsT xs (min xs.length 80)) 80) := hm ▸ HI
      have hN2 : Hid (Lm w wr b (prsT xs (min xs.length 80)) 80) := Lib.hid (HN.out.base HB.out)
      by_cases h1 : i < xs.length
      · have h3 : decide ((i : Int) < (xs.length : Int)) = true := by simp; omega
        have h4 : decide ((i : Int) < 80) = false := by simp; omega
        clear hm
        go_wp2_with fail
        go_ret
        exact ⟨b, rfl, hN2.out⟩
      · have h3 : decide ((i : Int) < (xs.length : Int)) = false := by simp; omega
        clear hm
        go_wp2_with fail
        go_ret
        exact ⟨b, rfl, hN2.out⟩
end Go.Proofs.Ytedekcphgcmlnaa
