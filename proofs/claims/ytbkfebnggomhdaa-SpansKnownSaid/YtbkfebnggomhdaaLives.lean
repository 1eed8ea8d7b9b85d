/- The examples of the chapter hold. -/
import Derived.Test.YtbkfebnggomhdaaLvAux
import Derived.Test.YtbkfebnggomhdaaShelf
namespace Go.Proofs.Ytbkfebnggomhdaa
open Go.RowKit
theorem mf1 : ∀ i : Int, decide (i ∈ [3, 1, 2, 7, 1]) = hasB [(1, 4), (7, 8)] i := by
  intro i
  rw [Bool.eq_iff_iff]
  simp [hasB]
  omega
theorem mf2 : ∀ i : Int, (hasB [(1, 4), (7, 8)] i || hasB [(4, 7)] i) = hasB [(1, 8)] i := by
  intro i
  rw [Bool.eq_iff_iff]
  simp [hasB]
  omega
theorem mf3 : ∀ i : Int, (hasB [(1, 4), (7, 9)] i && hasB [(2, 8)] i) = hasB [(2, 4), (7, 8)] i := by
  intro i
  rw [Bool.eq_iff_iff]
  simp [hasB]
  omega
theorem mf4 : ∀ i : Int, (hasB [(1, 9)] i && !hasB [(2, 4), (6, 7)] i) = hasB [(1, 2), (4, 6), (7, 9)] i := by
  intro i
  rw [Bool.eq_iff_iff]
  simp [hasB]
  omega
theorem mf5 : ∀ i : Int, insM [(1, 4)] 2 3 i = hasB [(1, 2), (5, 7)] i := by
  intro i
  rw [Bool.eq_iff_iff]
  simp [hasB, insM]
  first | omega | (split <;> omega)
theorem mf6 : ∀ i : Int, insM [(1, 4)] 1 3 i = hasB [(4, 7)] i := by
  intro i
  rw [Bool.eq_iff_iff]
  simp [hasB, insM]
  first | omega | (split <;> omega)
theorem mf7 : ∀ i : Int, insM [(1, 4)] 4 3 i = hasB [(1, 4)] i := by
  intro i
  rw [Bool.eq_iff_iff]
  simp [hasB, insM]
  first | omega | (split <;> omega)
theorem mf8 : ∀ i : Int, remM [(1, 4), (6, 8)] 3 3 i = hasB [(1, 5)] i := by
  intro i
  rw [Bool.eq_iff_iff]
  simp [hasB, remM]
  first | omega | (split <;> omega)
theorem mf9 : ∀ i : Int, remM [(1, 4)] 0 9 i = hasB [] i := by
  intro i
  rw [Bool.eq_iff_iff]
  simp [hasB, remM]
  first | omega | (split <;> omega)
set_option maxRecDepth 100000 in
set_option maxHeartbeats 8000000 in
theorem lives_any (w : World) : Calls Try.prog 9 #[] w fun e w' => e = .returned (.bool true) ∧ Below w.heap.size w w' := by
  have hb : Below w.heap.size w w := Below.refl _ _
  go_enter Try.func9, Try.ntmps9
  go_wp2_with fail
  refine (ofF_lit sorts_ok (W := w) [3, 1, 2, 7, 1] [(1, 4), (7, 8)] (by rfl) (by rfl) (by decide) (by decide) (by simp [Val]) mf1 (by decide) (by rfl)).mono ?_
  rintro e w1 ⟨Aw1, rfl, hw1, kw1⟩
  replace hb := hb.trans (kw1.mono hb.size)
  clear kw1
  have ha := hw1
  clear hw1
  go_wp2_with fail
  refine (ofF_nil sorts_ok (W := w1)).mono ?_
  rintro e w2 ⟨Aw2, rfl, hw2, kw2⟩
  replace ha := ha.next kw2
  replace hb := hb.trans (kw2.mono hb.size)
  clear kw2
  have hx := hw2
  clear hw2
  clear hx
  go_wp2_with fail
  refine (ofF_bad sorts_ok (W := w2) [-1] (by rfl) (by rfl) (by decide) (by decide)).mono ?_
  rintro e w3 ⟨rfl, kw3⟩
  replace ha := ha.next kw3
  replace hb := hb.trans (kw3.mono hb.size)
  clear kw3
  go_wp2_with fail
  refine (same_lit (W := w3) [(1, 4), (7, 8)] ha (by rfl) (by rfl) (by decide)).mono ?_
  rintro e w4 ⟨rfl, kw4⟩
  replace ha := ha.next kw4
  replace hb := hb.trans (kw4.mono hb.size)
  clear kw4
  go_wp2_with fail
  refine (same_nil (W := w4) 0).mono ?_
  rintro e w5 ⟨rfl, kw5⟩
  replace ha := ha.next kw5
  replace hb := hb.trans (kw5.mono hb.size)
  clear kw5
  go_wp2_with fail
  refine (same_nil (W := w5) 4).mono ?_
  rintro e w6 ⟨rfl, kw6⟩
  replace ha := ha.next kw6
  replace hb := hb.trans (kw6.mono hb.size)
  clear kw6
  go_wp2_with fail
  refine (of_lit (W := w6) [(1, 4), (4, 5)] (by rfl) (by rfl) (by decide)).mono ?_
  rintro e w7 ⟨Aw7, cw7, rfl, dw7, hw7, kw7⟩
  replace ha := ha.next kw7
  replace hb := hb.trans (kw7.mono hb.size)
  clear kw7
  have ht := hw7
  clear hw7
  go_wp2_with fail
  refine (check_at (W := w7) [(1, 4), (4, 5)] ht (by rfl) (k := 16) (by decide) (by decide)).mono ?_
  rintro e w8 ⟨rfl, kw8⟩
  replace ha := ha.next kw8
  replace ht := ht.next kw8
  replace hb := hb.trans (kw8.mono hb.size)
  clear kw8
  clear ht
  go_wp2_with fail
  refine (of_lit (W := w8) [(1, 1)] (by rfl) (by rfl) (by decide)).mono ?_
  rintro e w9 ⟨Aw9, cw9, rfl, dw9, hw9, kw9⟩
  replace ha := ha.next kw9
  replace hb := hb.trans (kw9.mono hb.size)
  clear kw9
  have ht := hw9
  clear hw9
  go_wp2_with fail
  refine (check_at (W := w9) [(1, 1)] ht (by rfl) (k := 1) (by decide) (by decide)).mono ?_
  rintro e w10 ⟨rfl, kw10⟩
  replace ha := ha.next kw10
  replace ht := ht.next kw10
  replace hb := hb.trans (kw10.mono hb.size)
  clear kw10
  clear ht
  go_wp2_with fail
  refine (of_lit (W := w10) [(2, 3), (0, 1)] (by rfl) (by rfl) (by decide)).mono ?_
  rintro e w11 ⟨Aw11, cw11, rfl, dw11, hw11, kw11⟩
  replace ha := ha.next kw11
  replace hb := hb.trans (kw11.mono hb.size)
  clear kw11
  have ht := hw11
  clear hw11
  go_wp2_with fail
  refine (check_at (W := w11) [(2, 3), (0, 1)] ht (by rfl) (k := 16) (by decide) (by decide)).mono ?_
  rintro e w12 ⟨rfl, kw12⟩
  replace ha := ha.next kw12
  replace ht := ht.next kw12
  replace hb := hb.trans (kw12.mono hb.size)
  clear kw12
  clear ht
  go_wp2_with fail
  refine (of_lit (W := w12) [(4, 7)] (by rfl) (by rfl) (by decide)).mono ?_
  rintro e w13 ⟨Aw13, cw13, rfl, dw13, hw13, kw13⟩
  replace ha := ha.next kw13
  replace hb := hb.trans (kw13.mono hb.size)
  clear kw13
  have ht := hw13
  clear hw13
  go_wp2_with fail
  refine (op_at union_any (W := w13) [(1, 4), (7, 8)] [(4, 7)] [(1, 8)] ha ht (by rfl) (by rfl) (Nat.le_refl _) dw13 (by decide) (by decide) (by decide) (by simp [Val]) mf2 (by decide) (by rfl)).mono ?_
  rintro e w14 ⟨Aw14, rfl, hw14, kw14⟩
  replace ha := ha.next kw14
  replace ht := ht.next kw14
  replace hb := hb.trans (kw14.mono hb.size)
  clear kw14
  have hu := hw14
  clear hw14
  clear ha
  clear ht
  go_wp2_with fail
  refine (of_lit (W := w14) [(1, 4), (7, 9)] (by rfl) (by rfl) (by decide)).mono ?_
  rintro e w15 ⟨Aw15, cw15, rfl, dw15, hw15, kw15⟩
  replace hu := hu.next kw15
  replace hb := hb.trans (kw15.mono hb.size)
  clear kw15
  have ht := hw15
  clear hw15
  go_wp2_with fail
  refine (of_lit (W := w15) [(2, 8)] (by rfl) (by rfl) (by decide)).mono ?_
  rintro e w16 ⟨Aw16, cw16, rfl, dw16, hw16, kw16⟩
  replace hu := hu.next kw16
  replace ht := ht.next kw16
  replace hb := hb.trans (kw16.mono hb.size)
  clear kw16
  have hs := hw16
  clear hw16
  go_wp2_with fail
  refine (op_at common_any (W := w16) [(1, 4), (7, 9)] [(2, 8)] [(2, 4), (7, 8)] ht hs (by rfl) (by rfl) dw15 dw16 (by decide) (by decide) (by decide) (by simp [Val]) mf3 (by decide) (by rfl)).mono ?_
  rintro e w17 ⟨Aw17, rfl, hw17, kw17⟩
  replace hu := hu.next kw17
  replace ht := ht.next kw17
  replace hs := hs.next kw17
  replace hb := hb.trans (kw17.mono hb.size)
  clear kw17
  have hv := hw17
  clear hw17
  clear ht
  clear hs
  go_wp2_with fail
  refine (of_lit (W := w17) [(1, 9)] (by rfl) (by rfl) (by decide)).mono ?_
  rintro e w18 ⟨Aw18, cw18, rfl, dw18, hw18, kw18⟩
  replace hu := hu.next kw18
  replace hv := hv.next kw18
  replace hb := hb.trans (kw18.mono hb.size)
  clear kw18
  have ht := hw18
  clear hw18
  go_wp2_with fail
  refine (of_lit (W := w18) [(2, 4), (6, 7)] (by rfl) (by rfl) (by decide)).mono ?_
  rintro e w19 ⟨Aw19, cw19, rfl, dw19, hw19, kw19⟩
  replace hu := hu.next kw19
  replace hv := hv.next kw19
  replace ht := ht.next kw19
  replace hb := hb.trans (kw19.mono hb.size)
  clear kw19
  have hs := hw19
  clear hw19
  go_wp2_with fail
  refine (op_at without_any (W := w19) [(1, 9)] [(2, 4), (6, 7)] [(1, 2), (4, 6), (7, 9)] ht hs (by rfl) (by rfl) dw18 dw19 (by decide) (by decide) (by decide) (by simp [Val]) mf4 (by decide) (by rfl)).mono ?_
  rintro e w20 ⟨Aw20, rfl, hw20, kw20⟩
  replace hu := hu.next kw20
  replace hv := hv.next kw20
  replace ht := ht.next kw20
  replace hs := hs.next kw20
  replace hb := hb.trans (kw20.mono hb.size)
  clear kw20
  have hz := hw20
  clear hw20
  clear ht
  clear hs
  go_wp2_with fail
  refine (same_lit (W := w20) [(1, 8)] hu (by rfl) (by rfl) (by decide)).mono ?_
  rintro e w21 ⟨rfl, kw21⟩
  replace hu := hu.next kw21
  replace hv := hv.next kw21
  replace hz := hz.next kw21
  replace hb := hb.trans (kw21.mono hb.size)
  clear kw21
  clear hu
  go_wp2_with fail
  refine (same_lit (W := w21) [(2, 4), (7, 8)] hv (by rfl) (by rfl) (by decide)).mono ?_
  rintro e w22 ⟨rfl, kw22⟩
  replace hv := hv.next kw22
  replace hz := hz.next kw22
  replace hb := hb.trans (kw22.mono hb.size)
  clear kw22
  clear hv
  go_wp2_with fail
  refine (same_lit (W := w22) [(1, 2), (4, 6), (7, 9)] hz (by rfl) (by rfl) (by decide)).mono ?_
  rintro e w23 ⟨rfl, kw23⟩
  replace hz := hz.next kw23
  replace hb := hb.trans (kw23.mono hb.size)
  clear kw23
  clear hz
  go_wp2_with fail
  refine (of_lit (W := w23) [(1, 4)] (by rfl) (by rfl) (by decide)).mono ?_
  rintro e w24 ⟨Aw24, cw24, rfl, dw24, hw24, kw24⟩
  replace hb := hb.trans (kw24.mono hb.size)
  clear kw24
  have hl := hw24
  clear hw24
  go_wp2_with fail
  refine (ins_at (W := w24) [(1, 4)] [(1, 2), (5, 7)] hl (by rfl) (by decide) (by decide) (by simp [Val]) mf5 (by decide) (by rfl)).mono ?_
  rintro e w25 ⟨Aw25, rfl, hw25, kw25⟩
  replace hl := hl.next kw25
  replace hb := hb.trans (kw25.mono hb.size)
  clear kw25
  have hu := hw25
  clear hw25
  go_wp2_with fail
  refine (ins_at (W := w25) [(1, 4)] [(4, 7)] hl (by rfl) (by decide) (by decide) (by simp [Val]) mf6 (by decide) (by rfl)).mono ?_
  rintro e w26 ⟨Aw26, rfl, hw26, kw26⟩
  replace hl := hl.next kw26
  replace hu := hu.next kw26
  replace hb := hb.trans (kw26.mono hb.size)
  clear kw26
  have hv := hw26
  clear hw26
  go_wp2_with fail
  refine (ins_at (W := w26) [(1, 4)] [(1, 4)] hl (by rfl) (by decide) (by decide) (by simp [Val]) mf7 (by decide) (by rfl)).mono ?_
  rintro e w27 ⟨Aw27, rfl, hw27, kw27⟩
  replace hl := hl.next kw27
  replace hu := hu.next kw27
  replace hv := hv.next kw27
  replace hb := hb.trans (kw27.mono hb.size)
  clear kw27
  have hz := hw27
  clear hw27
  go_wp2_with fail
  refine (same_lit (W := w27) [(1, 2), (5, 7)] hu (by rfl) (by rfl) (by decide)).mono ?_
  rintro e w28 ⟨rfl, kw28⟩
  replace hl := hl.next kw28
  replace hu := hu.next kw28
  replace hv := hv.next kw28
  replace hz := hz.next kw28
  replace hb := hb.trans (kw28.mono hb.size)
  clear kw28
  clear hu
  go_wp2_with fail
  refine (same_lit (W := w28) [(4, 7)] hv (by rfl) (by rfl) (by decide)).mono ?_
  rintro e w29 ⟨rfl, kw29⟩
  replace hl := hl.next kw29
  replace hv := hv.next kw29
  replace hz := hz.next kw29
  replace hb := hb.trans (kw29.mono hb.size)
  clear kw29
  clear hv
  go_wp2_with fail
  refine (same_lit (W := w29) [(1, 4)] hz (by rfl) (by rfl) (by decide)).mono ?_
  rintro e w30 ⟨rfl, kw30⟩
  replace hl := hl.next kw30
  replace hz := hz.next kw30
  replace hb := hb.trans (kw30.mono hb.size)
  clear kw30
  clear hz
  go_wp2_with fail
  refine (of_lit (W := w30) [(1, 4), (6, 8)] (by rfl) (by rfl) (by decide)).mono ?_
  rintro e w31 ⟨Aw31, cw31, rfl, dw31, hw31, kw31⟩
  replace hl := hl.next kw31
  replace hb := hb.trans (kw31.mono hb.size)
  clear kw31
  have hm := hw31
  clear hw31
  go_wp2_with fail
  refine (rem_at (W := w31) [(1, 4), (6, 8)] [(1, 5)] hm (by rfl) (by decide) (by decide) (by simp [Val]) mf8 (by decide) (by rfl)).mono ?_
  rintro e w32 ⟨Aw32, rfl, hw32, kw32⟩
  replace hl := hl.next kw32
  replace hm := hm.next kw32
  replace hb := hb.trans (kw32.mono hb.size)
  clear kw32
  have hu := hw32
  clear hw32
  go_wp2_with fail
  refine (rem_at (W := w32) [(1, 4)] [] hl (by rfl) (by decide) (by decide) trivial mf9 (by decide) (by rfl)).mono ?_
  rintro e w33 ⟨Aw33, rfl, hw33, kw33⟩
  replace hl := hl.next kw33
  replace hm := hm.next kw33
  replace hu := hu.next kw33
  replace hb := hb.trans (kw33.mono hb.size)
  clear kw33
  have hv := hw33
  clear hw33
  clear hv
  go_wp2_with fail
  refine (same_lit (W := w33) [(1, 5)] hu (by rfl) (by rfl) (by decide)).mono ?_
  rintro e w34 ⟨rfl, kw34⟩
  replace hl := hl.next kw34
  replace hm := hm.next kw34
  replace hu := hu.next kw34
  replace hb := hb.trans (kw34.mono hb.size)
  clear kw34
  clear hu
  go_wp2_with fail
  refine (same_nil (W := w34) 0).mono ?_
  rintro e w35 ⟨rfl, kw35⟩
  replace hl := hl.next kw35
  replace hm := hm.next kw35
  replace hb := hb.trans (kw35.mono hb.size)
  clear kw35
  go_wp2_with fail
  refine (count_at (W := w35) [(1, 4), (6, 8)] hm (by rfl) (k := 5) (by decide) (by decide)).mono ?_
  rintro e w36 ⟨rfl, kw36⟩
  replace hl := hl.next kw36
  replace hm := hm.next kw36
  replace hb := hb.trans (kw36.mono hb.size)
  clear kw36
  go_wp2_with fail
  refine (has_at (W := w36) [(1, 4)] hl (by rfl) (b := false) (by decide) (by decide)).mono ?_
  rintro e w37 ⟨rfl, kw37⟩
  replace hl := hl.next kw37
  replace hm := hm.next kw37
  replace hb := hb.trans (kw37.mono hb.size)
  clear kw37
  go_wp2_with fail
  go_ret
  exact ⟨rfl, hb⟩
end Go.Proofs.Ytbkfebnggomhdaa
