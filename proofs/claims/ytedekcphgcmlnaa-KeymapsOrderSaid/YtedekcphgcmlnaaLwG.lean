/- The walk of the law KeymapsGet. -/
import Derived.Test.YtedekcphgcmlnaaPrsW
import Derived.Test.YtedekcphgcmlnaaKnA
namespace Go.Proofs.Ytedekcphgcmlnaa
open Go.RowKit

theorem val_at {L : PL} {k : Int} (h : hasK L k = true) : ∃ hl : atI L k < L.length, L[atI L k].2 = valK L k := by
  obtain ⟨_, h2, h3⟩ := has_mem h
  obtain ⟨hl, he⟩ := List.getElem?_eq_some_iff.1 h3
  exact ⟨hl, by rw [he]⟩
theorem val_no {L : PL} {k : Int} (h : hasK L k = false) : valK L k = 0 := by
  unfold hasK at h
  unfold valK
  split at h
  · simp only [beq_eq_false_iff_ne] at h
    simp [h]
  · rfl
theorem lm_get2 {w0 w : World} {b M : Nat} {L : PL} (h : Lm w0 w b L M) (k : Int) :
    Calls Try.prog 15 #[.pointer (some ⟨b, 0, none⟩), .int .u64 k] w fun e w' => e = .returned (.tuple #[.int .i64 (valK L k), .bool (hasK L k)]) ∧ Below w.heap.size w w' := by
  obtain ⟨s, S, h1, h2, _⟩ := h
  exact get_any h1 h2 k
theorem lm_same2 {N : Nat} (hS : SortU N) {w0 w : World} {b M most : Nat} {L : PL} (h : Lm w0 w b L M) (hN : L.length ≤ N) {A : Option Addr} {c : Nat} (hl : SlR w A c L) (hm : M ≤ most) (hm2 : most ≤ 100000) :
    Calls Try.prog 17 #[.pointer (some ⟨b, 0, none⟩), .slice A L.length c, .int .i64 most] w (Yes w) := by
  obtain ⟨s, S, h1, h2, _⟩ := h
  exact same_any hS h1 h2 hN hl hm hm2
set_option maxRecDepth 100000 in
set_option maxHeartbeats 8000000 in
theorem lawG_any (hS : SortU 80) {w : World} {A : Option Addr} {c : Nat} {xs : List St} (h : SlT w A c xs) (key : Int) :
    Calls Try.prog 4 #[.agg #[.slice A xs.length c], .int .u64 key] w (Yes w) := by
  have HLv := Lib.hid (fun w => lives_any hS (by omega) w)
  have HS := Lib.hid hS
  have hb0 := below_alloc w (.cells #[.slice A xs.length c] 45)
  have HX := Lib.hid (h.below hb0)
  obtain ⟨V, hV⟩ : ∃ V : World, w.alloc (.cells #[.slice A xs.length c] 45) = V := ⟨_, rfl⟩
  obtain ⟨x, hx⟩ : ∃ x : Nat, w.heap.size = x := ⟨_, rfl⟩
  have hvx : V.heap[x]? = some (.cells #[.slice A xs.length c] 45 (0, 0)) := by rw [← hV]; exact new_at _ hx
  rw [hV] at hb0 HX
  have HV := Lib.hid hvx
  have HB := Lib.hid hb0
  have x0 : V.cell? ⟨x, 0, none⟩ = some (.slice A xs.length c) := cell_of_row _ _ 0 _ 45 (0, 0) hvx
  have C1 := Lib.hid (of_any HX.out)
  have CP : Hid (∀ W, Below V.heap.size V W → Calls Try.prog 19 #[.agg #[.slice A xs.length c]] W fun e w' => ∃ A' c', e = .returned (.slice A' (prsT xs (min xs.length 80)).length c') ∧ SlR w' A' c' (prsT xs (min xs.length 80)) ∧ Below W.heap.size W w') := Lib.hid (fun W hW => pairs_any (HX.out.below hW))
  have hln := prsT_len xs (min xs.length 80)
  have hL80 : (prsT xs (min xs.length 80)).length ≤ 80 := by omega
  generalize prsT xs (min xs.length 80) = L at * 
  clear h hb0 hvx hS
  go_enter Try.func4, Try.ntmps4
  go_upto_region 1 with fail
  clear hV hx
  go_wp2_with fail
  refine C1.out.mono ?_
  rintro e W1 ⟨b, rfl, h1⟩
  have H1 := Lib.hid h1
  have C2 := Lib.hid (CP.out W1 h1.u)
  have x1 : W1.cell? ⟨x, 0, none⟩ = some (.slice A xs.length c) := cell_of_row _ _ 0 _ 45 (0, 0) ((h1.u.block x (heap_lt HV.out)).trans HV.out)
  clear h1 C1 CP x0
  go_wp2_with fail
  refine C2.out.mono ?_
  rintro e W2 ⟨A2, c2, rfl, hs2, hb2⟩
  have H2 := Lib.hid (H1.out.next hb2)
  have HS2 := Lib.hid hs2
  have HK : Hid ((hasK L key = true ∧ ∃ i q, atI L key = i ∧ valK L key = q ∧ ∃ hl : i < L.length, L[i].2 = q) ∨ (hasK L key = false ∧ valK L key = 0)) := Lib.hid (by
    cases hh : hasK L key with
    | true =>
      obtain ⟨hl, he⟩ := val_at hh
      exact .inl ⟨rfl, _, _, rfl, rfl, hl, he⟩
    | false => exact .inr ⟨rfl, val_no hh⟩)
  have G3 : Hid (∀ f q, hasK L key = f → valK L key = q → Calls Try.prog 15 #[.pointer (some ⟨b, 0, none⟩), .int .u64 key] W2 fun e w' => e = .returned (.tuple #[.int .i64 q, .bool f]) ∧ Below W2.heap.size W2 w') := Lib.hid (fun f q h1 h2 => by
    rw [← h1, ← h2]
    exact lm_get2 H2.out key)
  have G4 : Hid (∀ W f i, hasK L key = f → atI L key = i → SlR W A2 c2 L → Calls Try.prog 16 #[.slice A2 L.length c2, .int .u64 key] W fun e w' => e = .returned (.tuple #[.int .i64 i, .bool f]) ∧ ∃ m, w' = W.drewN m) := Lib.hid (fun W f i h1 h2 hs => by
    rw [← h1, ← h2]
    exact refAt_any c2 hs.rd key (by omega))
  clear hs2 hb2 C2 x1 H1
  rcases HK.out with ⟨hf, i, q, hi, hq, hil, hiq⟩ | ⟨hf, hq⟩
  · have C3 := Lib.hid (G3.out true q hf hq)
    have C4 := Lib.hid (fun W => G4.out W true i hf hi)
    have HQ := Lib.hid (fun W (hs : SlR W A2 c2 L) => (show ∃ b0 o, A2 = some ⟨b0, o, none⟩ ∧ W.cell? ⟨b0, o + i * 2 + 1, none⟩ = some (.int .i64 q) from by
      obtain ⟨b0, o, e, _, _, e2⟩ := hs.rd i hil
      exact ⟨b0, o, e, by rw [e2, hiq]⟩))
    have hilc : i < L.length := hil
    clear G3 G4 HK hf hi hq hiq
    go_wp2_with fail
    refine C3.out.mono ?_
    rintro e W3 ⟨rfl, hb3⟩
    have H3 := Lib.hid (H2.out.next hb3)
    have hs3 := HS2.out.below hb3
    have C5 := Lib.hid (C4.out W3 hs3)
    have HS3 := Lib.hid hs3
    clear hb3 hs3 C3 C4 HS2 H2
    go_wp2_with fail
    refine C5.out.mono ?_
    rintro e W4 ⟨rfl, m, hw4⟩
    have hb4 : Below W3.heap.size W3 W4 := by rw [hw4]; exact below_drewN W3 m
    have H4 := Lib.hid (H3.out.next hb4)
    have hs4 := HS3.out.below hb4
    have C6 := Lib.hid (lm_same2 HS.out H4.out hL80 hs4 (Nat.le_refl 80) (by decide))
    have HS4 := Lib.hid hs4
    clear hw4 hb4 hs4 C5 HS3 H3
    go_wp2_with fail
    refine C6.out.mono ?_
    rintro e W5 ⟨rfl, hb5⟩
    have H5 := Lib.hid (H4.out.next hb5)
    obtain ⟨b0, o, hA2, hv⟩ := HQ.out W5 (HS4.out.below hb5)
    have hle2 := HS4.out.le
    subst hA2
    clear hb5 C6 H4 HQ HS4
    go_wp2_with fail
    refine (HLv.out _).mono ?_
    rintro e W6 ⟨rfl, hb6⟩
    have HU := Lib.hid (HB.out.trans ((H5.out.next hb6).u.mono HB.out.size))
    clear hb6
    go_wp2_with fail
    go_ret
    exact ⟨rfl, HU.out⟩
  · have C3 := Lib.hid (G3.out false 0 hf hq)
    have C4 := Lib.hid (fun W => G4.out W false (atI L key) hf rfl)
    clear G3 G4 HK hf hq
    go_wp2_with fail
    refine C3.out.mono ?_
    rintro e W3 ⟨rfl, hb3⟩
    have H3 := Lib.hid (H2.out.next hb3)
    have hs3 := HS2.out.below hb3
    have C5 := Lib.hid (C4.out W3 hs3)
    have HS3 := Lib.hid hs3
    clear hb3 hs3 C3 C4 HS2 H2
    go_wp2_with fail
    refine C5.out.mono ?_
    rintro e W4 ⟨rfl, m, hw4⟩
    have hb4 : Below W3.heap.size W3 W4 := by rw [hw4]; exact below_drewN W3 m
    have H4 := Lib.hid (H3.out.next hb4)
    have hs4 := HS3.out.below hb4
    have C6 := Lib.hid (lm_same2 HS.out H4.out hL80 hs4 (Nat.le_refl 80) (by decide))
    clear hw4 hb4 hs4 C5 HS3 H3
    go_wp2_with fail
    refine C6.out.mono ?_
    rintro e W5 ⟨rfl, hb5⟩
    have H5 := Lib.hid (H4.out.next hb5)
    clear hb5 C6 H4
    go_wp2_with fail
    refine (HLv.out _).mono ?_
    rintro e W6 ⟨rfl, hb6⟩
    have HU := Lib.hid (HB.out.trans ((H5.out.next hb6).u.mono HB.out.size))
    clear hb6
    go_wp2_with fail
    go_ret
    exact ⟨rfl, HU.out⟩
end Go.Proofs.Ytedekcphgcmlnaa
