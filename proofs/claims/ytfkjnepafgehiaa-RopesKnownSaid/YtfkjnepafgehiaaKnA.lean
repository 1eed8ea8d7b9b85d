/- The lists of the law RopesKnown. -/
import Derived.Test.YtfkjnepafgehiaaLaw4A
import Derived.Test.YtfkjnepafgehiaaFNewW
namespace Go.Proofs.Ytfkjnepafgehiaa
open Go.RowKit

/-- the sizes 0, 1, 2, 3, 4, 0, 1 .. -/
structure IsK (l : List Int) (n : Nat) : Prop where
  len : l.length = n
  at_ : ∀ k (h : k < l.length), l[k] = ((k % 5 : Nat) : Int)
theorem isK_ex (n : Nat) : ∃ l, IsK l n := ⟨(List.range n).map fun k => ((k % 5 : Nat) : Int), by simp, fun k h => by simp⟩
theorem IsK.take {l : List Int} {n : Nat} (h : IsK l n) (m : Nat) (hm : m ≤ n) : IsK (l.take m) m :=
  ⟨by rw [List.length_take, h.len]; omega, fun k hk => by
    have hk' : k < l.length := by simp at hk; omega
    rw [List.getElem_take]
    exact h.at_ k hk'⟩
theorem IsK.mem {l : List Int} {n : Nat} (h : IsK l n) : ∀ x ∈ l, 0 ≤ x ∧ x ≤ 15 := fun x hx => by
  obtain ⟨k, hk, rfl⟩ := List.mem_iff_getElem.1 hx
  rw [h.at_ k hk]; omega
theorem vd_small {l : List Int} (hm : ∀ x ∈ l, 0 ≤ x ∧ x ≤ 15) (hn : l.length ≤ 4096) : Vd l := by
  have hs := sum_small hm
  exact vd_of ⟨fun x hx => (hm x hx).1, by omega, hn⟩ fun x hx => by have := (hm x hx).2; omega
theorem IsK.chk {l : List Int} (h : IsK l 4097) : chk l = 3 := by unfold Ytfkjnepafgehiaa.chk; rw [if_pos (by rw [h.len]; omega)]
theorem IsK.join {l : List Int} (h : IsK l 4096) : joinR l [0] = ([], 3) := by
  have e : joinE l [0] = 3 := by unfold joinE; rw [if_pos (by rw [h.len]; decide)]
  unfold joinR; rw [e]; rfl
theorem IsK.ins {l : List Int} (h : IsK l 4096) : insR l 9 [1] = ([], 3) := by
  have e : joinE l [1] = 3 := by unfold joinE; rw [if_pos (by rw [h.len]; decide)]
  unfold insR; rw [h.len, e, if_pos (by decide), if_pos (by decide)]; rfl
theorem IsK.mov {l : List Int} (h : IsK l 4096) : movR l 0 2000 2096 = (l.drop 2000 ++ l.take 2000, 0) := by
  unfold movR
  rw [h.len, if_pos (by decide), if_pos (by decide)]
  have e : (l.drop 2000).length = 2096 := by rw [List.length_drop, h.len]
  simp only [Int.toNat_zero, List.take_zero, List.nil_append, List.drop_zero, Nat.zero_add]
  rw [show (2000 : Int).toNat = 2000 from rfl, show (2096 : Int).toNat = 2096 from rfl, ← e, List.take_length, List.drop_length, List.append_nil]
theorem IsK.back {l : List Int} (h : IsK l 4096) : movR (l.drop 2000 ++ l.take 2000) 2096 2000 0 = (l, 0) := by
  have e : (l.drop 2000).length = 2096 := by rw [List.length_drop, h.len]
  have e2 : (l.take 2000).length = 2000 := by rw [List.length_take, h.len]; omega
  have e3 : (l.drop 2000 ++ l.take 2000).length = 4096 := by rw [List.length_append, e, e2]
  unfold movR
  rw [e3, if_pos (by decide), if_pos (by decide)]
  have d1 : (l.drop 2000 ++ l.take 2000).drop 2096 = l.take 2000 := by rw [← e, List.drop_append_length]
  have d2 : (l.drop 2000 ++ l.take 2000).take 2096 = l.drop 2000 := by rw [← e, List.take_append_length]
  have d3 : (l.drop 2000 ++ l.take 2000).drop 4096 = [] := by rw [← e3, List.drop_length]
  have d4 : (l.take 2000).take 2000 = l.take 2000 := by rw [List.take_take]; simp
  show ((((l.drop 2000 ++ l.take 2000).take 2096 ++ (l.drop 2000 ++ l.take 2000).drop (2096 + 2000)).take 0 ++ ((l.drop 2000 ++ l.take 2000).drop 2096).take 2000 ++ ((l.drop 2000 ++ l.take 2000).take 2096 ++ (l.drop 2000 ++ l.take 2000).drop (2096 + 2000)).drop 0), (0 : Int)) = (l, 0)
  rw [show 2096 + 2000 = 4096 from rfl, d1, d2, d3, d4, List.append_nil, List.take_zero, List.nil_append, List.drop_zero, List.take_append_drop]
theorem IsK.rem {l : List Int} (h : IsK l 4096) : remR (l.drop 2000 ++ l.take 2000) 1 4094 = ([0, 4], 0) := by
  have e : (l.drop 2000).length = 2096 := by rw [List.length_drop, h.len]
  have e2 : (l.take 2000).length = 2000 := by rw [List.length_take, h.len]; omega
  have e3 : (l.drop 2000 ++ l.take 2000).length = 4096 := by rw [List.length_append, e, e2]
  unfold remR
  rw [e3, if_pos (by decide)]
  show ((l.drop 2000 ++ l.take 2000).take 1 ++ (l.drop 2000 ++ l.take 2000).drop (1 + 4094), (0 : Int)) = ([0, 4], 0)
  have d1 : (l.drop 2000 ++ l.take 2000).take 1 = [0] := by
    rw [List.take_append_of_le_length (by omega), List.drop_eq_getElem_cons (by rw [h.len]; omega), List.take_succ_cons, List.take_zero, h.at_ 2000 (by rw [h.len]; omega)]
    rfl
  have d2 : (l.drop 2000 ++ l.take 2000).drop (1 + 4094) = [4] := by
    rw [show 1 + 4094 = (l.drop 2000).length + 1999 by omega, List.drop_length_add_append]
    have : (l.take 2000).drop 1999 = [(l.take 2000)[1999]'(by omega)] := by
      rw [List.drop_eq_getElem_cons (by omega), List.drop_of_length_le (by omega)]
    rw [this, List.getElem_take, h.at_ 1999 (by rw [h.len]; omega)]
    rfl
  rw [d1, d2]
  rfl
theorem IsK.vd {l : List Int} (h : IsK l 4096) : Vd l := vd_small h.mem (by rw [h.len]; omega)
theorem IsK.vd2 {l : List Int} (h : IsK l 4096) : Vd (l.drop 2000 ++ l.take 2000) := vd_small (fun x hx => by
    rcases List.mem_append.1 hx with hx | hx
    · exact h.mem x (List.mem_of_mem_drop hx)
    · exact h.mem x (List.mem_of_mem_take hx)) (by rw [List.length_append, List.length_drop, List.length_take, h.len]; omega)
end Go.Proofs.Ytfkjnepafgehiaa
