/- The walk of letters. -/
import Derived.Test.YtecoobeddjfegaaOpsdS
namespace Go.Proofs.Ytecoobeddjfegaa
open Go.RowKit

/-- strings, one after another -/
def joinB (ss : List ByteArray) : ByteArray := ss.foldl (· ++ ·) ByteArray.empty
theorem joinB_succ {ss : List ByteArray} {k : Nat} (h : k < ss.length) : joinB (ss.take (k + 1)) = joinB (ss.take k) ++ ss[k] := by
  unfold joinB
  rw [List.take_succ_eq_append_getElem h, List.foldl_append]
  rfl
theorem joinB_size {ss : List ByteArray} (h1 : ∀ s ∈ ss, s.size = 1) : (joinB ss).size = ss.length := by
  suffices H : ∀ (l : List ByteArray) (a : ByteArray), (∀ s ∈ l, s.size = 1) → (l.foldl (· ++ ·) a).size = a.size + l.length by
    have := H ss ByteArray.empty h1
    simpa [joinB] using this
  intro l
  induction l with
  | nil => intro a _; simp
  | cons x l ih =>
    intro a hl
    rw [List.foldl_cons, ih _ (fun s hs => hl s (by simp [hs])), ByteArray.size_append, hl x (by simp)]
    simp; omega
def sv (ss : List ByteArray) : List Value := ss.map Value.string
set_option maxHeartbeats 1000000 in
theorem letters_any {w : World} {B U b n g : Nat} {ss : List ByteArray} (h : Has 9 53 B U w b n (sv ss) g) (h1 : ∀ s ∈ ss, s.size = 1) (hn : n ≤ 100) :
    Calls Try.prog 19 #[.pointer (some ⟨b, 0, none⟩)] w fun r w' => r = .returned (.string (joinB ss)) ∧ Below w.heap.size w w' := by
  have hl := h.len
  rw [sv, List.length_map] at hl
  have HL := Lib.hid (shlist h)
  have HS := Lib.hid h1
  have HN := Lib.hid hl
  clear h h1 hl
  go_enter Try.func19, Try.ntmps19
  go_wp2_with fail
  refine HL.out.mono ?_
  rintro r w1 ⟨G, rfl, hG, hr, hb⟩
  have HR := Lib.hid hr
  have HB := Lib.hid hb
  clear hG hr hb HL
  go_wp2_with fail
  go_loop [3, 5] (fun u k => ∃ j : Nat, k = .int .i64 j ∧ j ≤ n ∧ u = .string (joinB (ss.take j))) (fun _ k => n - (intOf k).toNat)
  case atStart => exact ⟨0, rfl, Nat.zero_le _, rfl⟩
  case round =>
    obtain ⟨j, rfl, hj, rfl⟩ := hrel
    by_cases hlt : j < n
    · have hjs : j < ss.length := by rw [HN.out]; exact hlt
      have hc : w1.cell? ⟨G, j, none⟩ = some (.string ss[j]) := by
        rw [cell_of_row w1 G j _ 9 (0, 0) HR.out]
        simp [sv, hjs]
      have hs1 : (joinB (ss.take j)).size ≤ 100 := by
        rw [joinB_size (fun s hs => HS.out s (List.mem_of_mem_take hs)), List.length_take]
        omega
      have hs2 : ss[j].size = 1 := HS.out _ (List.getElem_mem hjs)
      have HE := Lib.hid (joinB_succ hjs)
      generalize ss[j] = v at *
      generalize joinB (ss.take j) = u at *
      go_wp2_with fail
      go_round
      case rel => exact ⟨j + 1, by go_num, by omega, by rw [HE.out]⟩
      case measure => simp [intOf]; omega
    · obtain rfl : j = n := by omega
      rw [List.take_of_length_le (Nat.le_of_eq HN.out)]
      go_wp2_with fail
      go_ret
      exact ⟨rfl, HB.out⟩
end Go.Proofs.Ytecoobeddjfegaa
