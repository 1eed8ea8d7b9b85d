/- The binary search: lengthsFrom's closure, sort.Search over it. -/
import Derived.Test.YtejgcpohdbiaoaaBase
namespace Go.Proofs.Ytejgcpohdbiaoaa
open Go.RowKit

/-- the closure's variables: found, l, i -/
structure Cap (w : World) (v0 v1 v2 g : Nat) (n : Nat) (zs : List Int) (A : Option Addr) (c : Nat) (l : List Int) (i : Nat) : Prop where
  found : w.heap[v0]? = some (.cells #[.slice (some ⟨g, 0, none⟩) n n] 22 (0, 0))
  list : w.heap[v1]? = some (.cells #[.slice A l.length c] 22 (0, 0))
  idx : w.heap[v2]? = some (.cells #[.int .i64 i] 3 (0, 0))
  row : RI w g zs
  le : n ≤ zs.length
  rd : RdI w w.heap.size A l
  lt : i < l.length
theorem Cap.drewN {w : World} {v0 v1 v2 g : Nat} {n : Nat} {zs : List Int} {A : Option Addr} {c : Nat} {l : List Int} {i : Nat} (h : Cap w v0 v1 v2 g n zs A c l i) (k : Nat) : Cap (w.drewN k) v0 v1 v2 g n zs A c l i :=
  ⟨h.found, h.list, h.idx, h.row, h.le, h.rd, h.lt⟩
set_option maxHeartbeats 1000000 in
theorem clos_any {w : World} {v0 v1 v2 g : Nat} {n : Nat} {zs : List Int} {A : Option Addr} {c : Nat} {l : List Int} {i : Nat} (h : Cap w v0 v1 v2 g n zs A c l i) (k m : Nat) (hk : k < n)
    (hm : ∀ (k : Nat) (h1 : k < zs.length) (h2 : i < l.length), k < n → (l[i] < zs[k] ↔ k < m)) :
    Calls Try.prog 32 #[.int .i64 k, .pointer (some ⟨v0, 0, none⟩), .pointer (some ⟨v1, 0, none⟩), .pointer (some ⟨v2, 0, none⟩)] w fun e w' => e = .returned (.bool (decide (m ≤ k))) ∧ ∃ d, w' = w.drewN d := by
  have g0 := cell_of_one h.found
  have g1 := cell_of_one h.list
  have g2 := cell_of_one h.idx
  have hlt := h.lt
  have hle := h.le
  have hkz : k < zs.length := by omega
  have g3 := h.row.cell (List.getElem?_eq_getElem hkz)
  obtain ⟨b, o, rfl, hb, g4⟩ := h.rd i hlt
  have HM := Lib.hid (hm k hkz hlt hk)
  obtain ⟨x, hx⟩ : ∃ x, l[i] = x := ⟨_, rfl⟩
  obtain ⟨y, hy⟩ : ∃ y, zs[k] = y := ⟨_, rfl⟩
  rw [hx] at g4 HM
  rw [hy] at g3 HM
  clear hm hx hy h
  go_enter Try.func32, Try.ntmps32
  go_wp2_with fail
  go_quiet (fail)
  go_wp2_with fail
  go_ret
  exact ⟨ret_bool (by have := HM.out; by_cases h1 : m ≤ k <;> simp <;> omega), _, rfl⟩
set_option maxHeartbeats 1000000 in
theorem search_any {w : World} {v0 v1 v2 g : Nat} {n : Nat} {zs : List Int} {A : Option Addr} {c : Nat} {l : List Int} {i : Nat} (h : Cap w v0 v1 v2 g n zs A c l i) (m : Nat) (hmn : m ≤ n) (hn : n ≤ 4096)
    (hm : ∀ (k : Nat) (h1 : k < zs.length) (h2 : i < l.length), k < n → (l[i] < zs[k] ↔ k < m)) :
    Calls Try.prog 31 #[.int .i64 n, .func (.func 32) #[] #[.pointer (some ⟨v0, 0, none⟩), .pointer (some ⟨v1, 0, none⟩), .pointer (some ⟨v2, 0, none⟩)]] w fun e w' => e = .returned (.int .i64 m) ∧ ∃ d, w' = w.drewN d := by
  have HC := Lib.hid (fun (d k : Nat) (hk : k < n) => clos_any (h.drewN d) k m hk hm)
  clear h hm
  go_enter Try.func31, Try.ntmps31
  go_wp2_with fail
  go_loopw [5, 6] (fun a b wr => ∃ i j d : Nat, a = .int .i64 i ∧ b = .int .i64 j ∧ i ≤ m ∧ m ≤ j ∧ j ≤ n ∧ wr = w.drewN d) (fun a b _ => (intOf b - intOf a).toNat)
  case atStart => exact ⟨0, n, 0, rfl, rfl, Nat.zero_le _, hmn, Nat.le_refl _, rfl⟩
  case round =>
    obtain ⟨i, j, d, rfl, rfl, h1, h2, h3, rfl⟩ := hrel
    by_cases hlt : i < j
    · obtain ⟨k, hk⟩ : ∃ k : Nat, (i + j) / 2 = k := ⟨_, rfl⟩
      have h4 := HC.out d k (by omega)
      have hk2 : ((i : Int) + (j : Int)) / 2 = (k : Int) := by omega
      have h5 : i ≤ k ∧ k < j := by omega
      clear hk
      by_cases hmk : m ≤ k
      · rw [decide_eq_true hmk] at h4
        have HK := Lib.hid h4
        clear h4
        go_wp2_with fail
        refine HK.out.mono ?_
        rintro e w' ⟨rfl, d2, rfl⟩
        go_wp2_with fail
        go_roundw
        case rel => exact ⟨i, k, d + d2, rfl, rfl, h1, hmk, by omega, rfl⟩
        case measure => simp [intOf]; omega
      · rw [decide_eq_false hmk] at h4
        have HK := Lib.hid h4
        clear h4
        go_wp2_with fail
        refine HK.out.mono ?_
        rintro e w' ⟨rfl, d2, rfl⟩
        go_wp2_with fail
        go_roundw
        case rel => exact ⟨k + 1, j, d + d2, by go_num, rfl, by omega, h2, h3, rfl⟩
        case measure => simp [intOf]; omega
    · obtain rfl : i = m := by omega
      go_wp2_with fail
      go_ret
      exact ⟨rfl, _, rfl⟩
end Go.Proofs.Ytejgcpohdbiaoaa
