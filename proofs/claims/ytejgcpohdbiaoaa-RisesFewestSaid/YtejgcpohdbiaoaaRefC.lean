/- The reference: Carry, one step. -/
import Derived.Test.YtejgcpohdbiaoaaRefK
namespace Go.Proofs.Ytejgcpohdbiaoaa
open Go.RowKit

/-- what the reference's functions with an error hand back -/
def RowE (r : List Int × Int) (w : World) (e : Ending) (w' : World) : Prop := ∃ A c, e = .returned (.tuple #[.slice A r.1.length c, .int .i64 r.2]) ∧ SlI w' A c r.1 ∧ Below w.heap.size w w'
theorem rowE_err {f : Int} {w W : World} (hb : Below w.heap.size w W) : RowE ([], f) w (.returned (.tuple #[.slice none 0 0, .int .i64 f])) W := ⟨none, 0, rfl, SlI.none W, hb⟩
theorem rowE_own {l : List Int} {w W : World} {base : Nat} {v : Value} (h : OwnI W base v l) (hb : Below w.heap.size w W) : RowE (l, 0) w (.returned (.tuple #[v, .int .i64 0])) W := by
  obtain ⟨A, c, rfl, hs⟩ := h.sl
  exact ⟨A, c, rfl, hs, hb⟩
/-- a step, and its error -/
def stepR (l : List Int) (x a : Int) : List Int × Int := if stepE l x a = 0 then (mvL x a l, 0) else ([], stepE l x a)
theorem mvT_take {x a : Int} {l : List Int} {i : Nat} (hi : i < l.length) : mvT x a (l.take (i + 1)) = mvT x a (l.take i) ++ ((if l[i] = a then [x] else []) ++ (if l[i] = x then [] else [l[i]])) := by
  rw [List.take_succ_eq_append_getElem hi, mvT_app]
  simp [mvT]
theorem mvT_len (x a : Int) (l : List Int) : (mvT x a l).length ≤ 2 * l.length := by
  induction l with
  | nil => simp [mvT]
  | cons y l ih =>
    rw [mvT_cons]
    simp only [List.length_append, List.length_cons]
    split <;> split <;> simp <;> omega
set_option maxRecDepth 100000 in
set_option maxHeartbeats 4000000 in
theorem refCarry_any {w : World} {A : Option Addr} {c : Nat} {l : List Int} (h : SlI w A c l) (hl : l.length ≤ 4096) (x a : Int) :
    Calls Try.prog 20 #[.slice A l.length c, .agg #[.int .i64 x, .int .i64 a]] w (RowE (stepR l x a) w) := by
  obtain ⟨g, hg⟩ : ∃ g : Nat, w.heap.size = g := ⟨_, rfl⟩
  obtain ⟨V, hV⟩ : ∃ V : World, w.alloc (.cells #[.int .i64 x, .int .i64 a] 52) = V := ⟨_, rfl⟩
  have hbox : V.heap[g]? = some (.cells #[.int .i64 x, .int .i64 a] 52 (0, 0)) := by rw [← hV]; exact new_at _ hg
  have hbv : Below w.heap.size w V := by rw [← hV]; exact below_new _ _
  have HAt := Lib.hid (fun y => at_any (w := V) c ((h.rd.below hbv).more hbv.size) h.len y)
  have v0 : V.cell? ⟨g, 0, none⟩ = some (.int .i64 x) := cell_of_row _ _ 0 _ 52 (0, 0) hbox
  have v1 : V.cell? ⟨g, 1, none⟩ = some (.int .i64 a) := cell_of_row _ _ 1 _ 52 (0, 0) hbox
  have HB := Lib.hid hbox
  have HV := Lib.hid hbv
  have HS := Lib.hid (h.next hbv)
  by_cases hx : x ∈ l
  · have hx1 : ¬ (atL l x < 0) := fun h => atL_neg.1 h hx
    by_cases ha : a ≠ -1 ∧ a ∉ l
    · have hst : stepR l x a = ([], 11) := by
        have : stepE l x a = 11 := by unfold stepE; rw [if_pos (.inr ha)]
        unfold stepR
        rw [this, if_neg (by decide)]
      have HST := Lib.hid hst
      have ha1 : (a != (-1 : Int)) = true := by simpa using ha.1
      have ha1' : (a == (-1 : Int)) = false := by simpa using ha.1
      have ha2 : atL l a < 0 := atL_neg.2 ha.2
      have H1 := Lib.hid (HAt.out x)
      have H2 := Lib.hid (HAt.out a)
      generalize atL l x = p at *
      generalize atL l a = q at *
      clear hst h hx ha hbox hbv HAt
      go_enter Try.func20, Try.ntmps20
      go_wp2_with fail
      refine H1.out.mono ?_
      rintro e w3 ⟨rfl, rfl⟩
      rename World => V
      go_wp2_with fail
      refine H2.out.mono ?_
      rintro e w3 ⟨rfl, rfl⟩
      go_wp2_with fail
      go_ret2
      rw [HST.out]
      exact rowE_err HV.out
    · by_cases ha0 : a = -1
      · subst ha0
        have hxa : x ≠ -1 ∨ x = -1 := by omega
        have H1 := Lib.hid (HAt.out x)
        have hgV : g < V.heap.size := heap_lt hbox
        by_cases hxa : x = -1
        · have HST : Hid (stepR l x (-1) = ([], 1)) := Lib.hid (by
            have : stepE l x (-1) = 1 := by unfold stepE; rw [if_neg (by rintro (h | h); exact h hx; exact ha h), if_pos hxa]
            unfold stepR
            rw [this, if_neg (by decide)])
          generalize atL l x = p at *
          clear h hx ha hbox hbv HAt
          subst hxa
          go_enter Try.func20, Try.ntmps20
          go_wp2_with fail
          refine H1.out.mono ?_
          rintro e w3 ⟨rfl, rfl⟩
          rename World => V
          go_wp2_with fail
          go_ret2
          rw [HST.out]
          exact rowE_err HV.out
        · have HST : Hid (stepR l x (-1) = (mvL x (-1) l, 0)) := Lib.hid (by
            have : stepE l x (-1) = 0 := by unfold stepE; rw [if_neg (by rintro (h | h); exact h hx; exact ha h), if_neg hxa]
            unfold stepR
            rw [if_pos this])
          generalize atL l x = p at *
          clear h hx ha hbox hbv HAt
          go_enter Try.func20, Try.ntmps20
          go_wp2_with fail
          refine H1.out.mono ?_
          rintro e w3 ⟨rfl, rfl⟩
          rename World => V
          clear hg hV
          have H0 : Hid (RkI V V (.slice none 0 0) (mvT x (-1) (l.take 0))) := Lib.hid ⟨own_nil _ _, Below.refl _ _⟩
          have hne : (x == (-1 : Int)) = false := by simpa using hxa
          have HV8 := Lib.hid hgV
          go_wp2_with fail
          go_loopw [6, 7] (fun o v wr => ∃ i : Nat, i ≤ l.length ∧ v = .int .i64 i ∧ Hid (RkI V wr o (mvT x (-1) (l.take i)))) (fun _ v _ => l.length - (intOf v).toNat)
          case atStart => exact ⟨0, Nat.zero_le _, rfl, H0⟩
          case round =>
            clear H0
            obtain ⟨i, hi, rfl, HI⟩ := hrel
            have w0 : wr.cell? ⟨g, 0, none⟩ = some (.int .i64 x) := (HI.out.u.cell (p := ⟨g, 0, none⟩) HV8.out).trans v0
            have w1 : wr.cell? ⟨g, 1, none⟩ = some (.int .i64 (-1)) := (HI.out.u.cell (p := ⟨g, 1, none⟩) HV8.out).trans v1
            by_cases hlt : i < l.length
            · obtain ⟨b, o, rfl, hbb, hc⟩ := HS.out.rd.below HI.out.u i hlt
              have hT := mvT_take (x := x) (a := -1) hlt
              have hlen := mvT_len x (-1) (l.take i)
              rw [List.length_take] at hlen
              obtain ⟨y, hy⟩ : ∃ y, l[i] = y := ⟨_, rfl⟩
              rw [hy] at hc hT
              have HCY := Lib.hid (fun (W : World) (hW : Below V.heap.size wr W) => (hW.cell (p := ⟨b, o + i, none⟩) hbb).trans hc)
              have HC0 := Lib.hid (fun (W : World) (hW : Below V.heap.size wr W) => (hW.cell (p := ⟨g, 0, none⟩) HV8.out).trans w0)
              clear hy hbb
              by_cases hya : y = -1
              · have hyx : y ≠ x := fun e => hxa (e ▸ hya)
                rw [if_pos hya, if_neg hyx] at hT
                have HT := Lib.hid hT
                have t1 : (y == (-1 : Int)) = true := by simpa using hya
                have t2 : (y == x) = false := by simpa using hyx
                have t3 : (y != x) = true := by simpa using hyx
                have HYA := Lib.hid hya
                clear hT hya hyx
                go_upto_region 9 with fail
                go_quiet (fail)
                have HI2 := Lib.hid ((HI.out.next (below_drewN wr nq)).next (below_new (wr.drewN nq) (.cells #[.int .i64 x] 3)))
                have HS1 := Lib.hid (sl_one (wr.drewN nq) x)
                go_wp2_with (
                  at_builtin
                  refine wp_app rfl (.tmp 43) (.tmp 46) rfl V.heap.size _ (mvT x (-1) (l.take i)) rfl _ 1 [x] 1 rfl rfl HI2.out.own HS1.out (by simp only [List.length_singleton]; omega) HI2.out.u.size ?_
                  intro v3 w3 H3 B3 G3)
                have hbw : Below V.heap.size wr w3 := ((below_drewN wr nq).mono HI.out.u.size).trans (((below_new (wr.drewN nq) _).mono (by exact HI.out.u.size)).trans B3.out)
                have z0 := HC0.out w3 hbw
                have z1 := HCY.out w3 hbw
                have HR3 : Hid (RkI V w3 v3 (mvT x (-1) (l.take i) ++ [x])) := Lib.hid ⟨H3.out, HI2.out.u.trans B3.out⟩
                clear H3 B3 G3 HI2 hbw HCY HC0 w0 w1 hc HS1
                go_upto_region 11 with fail
                go_quiet (fail)
                have HI4 := Lib.hid ((HR3.out.next (below_drewN w3 nq)).next (below_new (w3.drewN nq) (.cells #[.int .i64 y] 3)))
                have HS2 := Lib.hid (sl_one (w3.drewN nq) y)
                go_wp2_with (
                  at_builtin
                  refine wp_app rfl (.tmp 55) (.tmp 60) rfl V.heap.size _ (mvT x (-1) (l.take i) ++ [x]) rfl _ 1 [y] 1 rfl rfl HI4.out.own HS2.out (by simp only [List.length_singleton, List.length_append]; omega) HI4.out.u.size ?_
                  intro v5 w5 H5 B5 G5)
                have HN : Hid (RkI V w5 v5 (mvT x (-1) (l.take (i + 1)))) := Lib.hid ⟨by rw [HT.out]; have := H5.out; rwa [List.append_assoc] at this, HI4.out.u.trans B5.out⟩
                clear H5 B5 G5 HI4 z0 z1
                go_roundw
                case rel => exact ⟨i + 1, by omega, by go_num, HN⟩
                case measure => first | (simp [intOf]; done) | (simp [intOf]; omega)
              · have t1 : (y == (-1 : Int)) = false := by simpa using hya
                rw [if_neg hya] at hT
                by_cases hyx : y = x
                · rw [if_pos hyx] at hT
                  have HT := Lib.hid hT
                  have t2 : (y == x) = true := by simpa using hyx
                  have t3 : (y != x) = false := by simpa using hyx
                  have HYX := Lib.hid hyx
                  clear hT hya hyx HCY HC0
                  have HN := Lib.hid (fun nq => (show RkI V (wr.drewN nq) _ (mvT x (-1) (l.take (i + 1))) from by rw [HT.out, List.append_nil, List.append_nil]; exact HI.out.next (below_drewN wr nq)))
                  go_upto_region 9 with fail
                  go_quiet (fail)
                  go_upto_region 11 with fail
                  go_quiet (fail)
                  go_wp2_with fail
                  go_roundw
                  case rel => exact ⟨i + 1, by omega, by go_num, HN.out _⟩
                  case measure => first | (simp [intOf]; done) | (simp [intOf]; omega)
                · rw [if_neg hyx] at hT
                  have HT := Lib.hid hT
                  have t2 : (y == x) = false := by simpa using hyx
                  have t3 : (y != x) = true := by simpa using hyx
                  clear hT hya hyx HCY HC0
                  have HI4 := Lib.hid (fun nq => (HI.out.next (below_drewN wr nq)).next (below_new (wr.drewN nq) (.cells #[.int .i64 y] 3)))
                  have HS2 := Lib.hid (fun nq => sl_one (wr.drewN nq) y)
                  go_upto_region 9 with fail
                  go_quiet (fail)
                  go_upto_region 11 with fail
                  go_quiet (fail)
                  go_wp2_with (
                    at_builtin
                    refine wp_app rfl (.tmp 55) (.tmp 60) rfl V.heap.size _ (mvT x (-1) (l.take i)) rfl _ 1 [y] 1 rfl rfl (HI4.out _).own (HS2.out _) (by simp only [List.length_singleton]; omega) (HI4.out _).u.size ?_
                    intro v5 w5 H5 B5 G5)
                  have HN : Hid (RkI V w5 v5 (mvT x (-1) (l.take (i + 1)))) := Lib.hid ⟨by rw [HT.out, List.nil_append]; exact H5.out, (HI4.out _).u.trans B5.out⟩
                  clear H5 B5 G5 HI4
                  go_roundw
                  case rel => exact ⟨i + 1, by omega, by go_num, HN⟩
                  case measure => first | (simp [intOf]; done) | (simp [intOf]; omega)
            · obtain rfl : i = l.length := by omega
              have HI2 := Lib.hid (HI.out.next (below_new wr (.cells #[.int .i64 x] 3)))
              have hlen := mvT_len x (-1) (l.take l.length)
              rw [List.length_take] at hlen
              have HS1 := Lib.hid (sl_one wr x)
              go_wp2_with (
                at_builtin
                refine wp_app rfl (.tmp 65) (.tmp 68) rfl V.heap.size _ (mvT x (-1) (l.take l.length)) rfl _ 1 [x] 1 rfl rfl HI2.out.own HS1.out (by simp only [List.length_singleton]; omega) HI2.out.u.size ?_
                intro v5 w5 H5 B5 G5)
              have HO : Hid (OwnI w5 V.heap.size v5 (mvL x (-1) l)) := Lib.hid (by have := H5.out; rw [List.take_length] at this; unfold mvL; rw [if_pos rfl]; exact this)
              go_ret2
              rw [HST.out]
              exact rowE_own HO.out (HV.out.trans ((HI2.out.u.trans B5.out).mono HV.out.size))
      · have hal : a ∈ l := Decidable.by_contra fun hc => ha ⟨ha0, hc⟩
        have ha2 : ¬ (atL l a < 0) := fun h => atL_neg.1 h hal
        have ha1 : (a != (-1 : Int)) = true := by simpa using ha0
        have ha1' : (a == (-1 : Int)) = false := by simpa using ha0
        have HA1 := Lib.hid ha0
        have H1 := Lib.hid (HAt.out x)
        have H2 := Lib.hid (HAt.out a)
        have hgV : g < V.heap.size := heap_lt hbox
        by_cases hxa : x = a
        · have HST : Hid (stepR l x a = ([], 1)) := Lib.hid (by
            have : stepE l x a = 1 := by unfold stepE; rw [if_neg (by rintro (h | h); exact h hx; exact ha h), if_pos hxa]
            unfold stepR
            rw [this, if_neg (by decide)])
          generalize atL l x = p at *
          generalize atL l a = q at *
          clear h hx ha hbox hbv HAt ha0 hal
          subst hxa
          go_enter Try.func20, Try.ntmps20
          go_wp2_with fail
          refine H1.out.mono ?_
          rintro e w3 ⟨rfl, rfl⟩
          rename World => V
          go_wp2_with fail
          refine H2.out.mono ?_
          rintro e w3 ⟨rfl, rfl⟩
          go_wp2_with fail
          go_ret2
          rw [HST.out]
          exact rowE_err HV.out
        · have HST : Hid (stepR l x a = (mvL x a l, 0)) := Lib.hid (by
            have : stepE l x a = 0 := by unfold stepE; rw [if_neg (by rintro (h | h); exact h hx; exact ha h), if_neg hxa]
            unfold stepR
            rw [if_pos this])
          generalize atL l x = p at *
          generalize atL l a = q at *
          clear h hx ha hbox hbv HAt ha0 hal
          go_enter Try.func20, Try.ntmps20
          go_wp2_with fail
          refine H1.out.mono ?_
          rintro e w3 ⟨rfl, rfl⟩
          rename World => V
          go_wp2_with fail
          refine H2.out.mono ?_
          rintro e w3 ⟨rfl, rfl⟩
          rename World => V
          clear hg hV
          have H0 : Hid (RkI V V (.slice none 0 0) (mvT x a (l.take 0))) := Lib.hid ⟨own_nil _ _, Below.refl _ _⟩
          have hne : (x == (a : Int)) = false := by simpa using hxa
          have HV8 := Lib.hid hgV
          go_wp2_with fail
          go_loopw [6, 7] (fun o v wr => ∃ i : Nat, i ≤ l.length ∧ v = .int .i64 i ∧ Hid (RkI V wr o (mvT x a (l.take i)))) (fun _ v _ => l.length - (intOf v).toNat)
          case atStart => exact ⟨0, Nat.zero_le _, rfl, H0⟩
          case round =>
            clear H0
            obtain ⟨i, hi, rfl, HI⟩ := hrel
            have w0 : wr.cell? ⟨g, 0, none⟩ = some (.int .i64 x) := (HI.out.u.cell (p := ⟨g, 0, none⟩) HV8.out).trans v0
            have w1 : wr.cell? ⟨g, 1, none⟩ = some (.int .i64 (a)) := (HI.out.u.cell (p := ⟨g, 1, none⟩) HV8.out).trans v1
            by_cases hlt : i < l.length
            · obtain ⟨b, o, rfl, hbb, hc⟩ := HS.out.rd.below HI.out.u i hlt
              have hT := mvT_take (x := x) (a := a) hlt
              have hlen := mvT_len x (a) (l.take i)
              rw [List.length_take] at hlen
              obtain ⟨y, hy⟩ : ∃ y, l[i] = y := ⟨_, rfl⟩
              rw [hy] at hc hT
              have HCY := Lib.hid (fun (W : World) (hW : Below V.heap.size wr W) => (hW.cell (p := ⟨b, o + i, none⟩) hbb).trans hc)
              have HC0 := Lib.hid (fun (W : World) (hW : Below V.heap.size wr W) => (hW.cell (p := ⟨g, 0, none⟩) HV8.out).trans w0)
              clear hy hbb
              by_cases hya : y = a
              · have hyx : y ≠ x := fun e => hxa (e ▸ hya)
                rw [if_pos hya, if_neg hyx] at hT
                have HT := Lib.hid hT
                have t1 : (y == (a : Int)) = true := by simpa using hya
                have t2 : (y == x) = false := by simpa using hyx
                have t3 : (y != x) = true := by simpa using hyx
                have HYA := Lib.hid hya
                clear hT hya hyx
                go_upto_region 9 with fail
                go_quiet (fail)
                have HI2 := Lib.hid ((HI.out.next (below_drewN wr nq)).next (below_new (wr.drewN nq) (.cells #[.int .i64 x] 3)))
                have HS1 := Lib.hid (sl_one (wr.drewN nq) x)
                go_wp2_with (
                  at_builtin
                  refine wp_app rfl (.tmp 43) (.tmp 46) rfl V.heap.size _ (mvT x (a) (l.take i)) rfl _ 1 [x] 1 rfl rfl HI2.out.own HS1.out (by simp only [List.length_singleton]; omega) HI2.out.u.size ?_
                  intro v3 w3 H3 B3 G3)
                have hbw : Below V.heap.size wr w3 := ((below_drewN wr nq).mono HI.out.u.size).trans (((below_new (wr.drewN nq) _).mono (by exact HI.out.u.size)).trans B3.out)
                have z0 := HC0.out w3 hbw
                have z1 := HCY.out w3 hbw
                have HR3 : Hid (RkI V w3 v3 (mvT x (a) (l.take i) ++ [x])) := Lib.hid ⟨H3.out, HI2.out.u.trans B3.out⟩
                clear H3 B3 G3 HI2 hbw HCY HC0 w0 w1 hc HS1
                go_upto_region 11 with fail
                go_quiet (fail)
                have HI4 := Lib.hid ((HR3.out.next (below_drewN w3 nq)).next (below_new (w3.drewN nq) (.cells #[.int .i64 y] 3)))
                have HS2 := Lib.hid (sl_one (w3.drewN nq) y)
                go_wp2_with (
                  at_builtin
                  refine wp_app rfl (.tmp 55) (.tmp 60) rfl V.heap.size _ (mvT x (a) (l.take i) ++ [x]) rfl _ 1 [y] 1 rfl rfl HI4.out.own HS2.out (by simp only [List.length_singleton, List.length_append]; omega) HI4.out.u.size ?_
                  intro v5 w5 H5 B5 G5)
                have HN : Hid (RkI V w5 v5 (mvT x (a) (l.take (i + 1)))) := Lib.hid ⟨by rw [HT.out]; have := H5.out; rwa [List.append_assoc] at this, HI4.out.u.trans B5.out⟩
                clear H5 B5 G5 HI4 z0 z1
                go_roundw
                case rel => exact ⟨i + 1, by omega, by go_num, HN⟩
                case measure => first | (simp [intOf]; done) | (simp [intOf]; omega)
              · have t1 : (y == (a : Int)) = false := by simpa using hya
                rw [if_neg hya] at hT
                by_cases hyx : y = x
                · rw [if_pos hyx] at hT
                  have HT := Lib.hid hT
                  have t2 : (y == x) = true := by simpa using hyx
                  have t3 : (y != x) = false := by simpa using hyx
                  have HYX := Lib.hid hyx
                  clear hT hya hyx HCY HC0
                  have HN := Lib.hid (fun nq => (show RkI V (wr.drewN nq) _ (mvT x (a) (l.take (i + 1))) from by rw [HT.out, List.append_nil, List.append_nil]; exact HI.out.next (below_drewN wr nq)))
                  go_upto_region 9 with fail
                  go_quiet (fail)
                  go_upto_region 11 with fail
                  go_quiet (fail)
                  go_wp2_with fail
                  go_roundw
                  case rel => exact ⟨i + 1, by omega, by go_num, HN.out _⟩
                  case measure => first | (simp [intOf]; done) | (simp [intOf]; omega)
                · rw [if_neg hyx] at hT
                  have HT := Lib.hid hT
                  have t2 : (y == x) = false := by simpa using hyx
                  have t3 : (y != x) = true := by simpa using hyx
                  clear hT hya hyx HCY HC0
                  have HI4 := Lib.hid (fun nq => (HI.out.next (below_drewN wr nq)).next (below_new (wr.drewN nq) (.cells #[.int .i64 y] 3)))
                  have HS2 := Lib.hid (fun nq => sl_one (wr.drewN nq) y)
                  go_upto_region 9 with fail
                  go_quiet (fail)
                  go_upto_region 11 with fail
                  go_quiet (fail)
                  go_wp2_with (
                    at_builtin
                    refine wp_app rfl (.tmp 55) (.tmp 60) rfl V.heap.size _ (mvT x (a) (l.take i)) rfl _ 1 [y] 1 rfl rfl (HI4.out _).own (HS2.out _) (by simp only [List.length_singleton]; omega) (HI4.out _).u.size ?_
                    intro v5 w5 H5 B5 G5)
                  have HN : Hid (RkI V w5 v5 (mvT x (a) (l.take (i + 1)))) := Lib.hid ⟨by rw [HT.out, List.nil_append]; exact H5.out, (HI4.out _).u.trans B5.out⟩
                  clear H5 B5 G5 HI4
                  go_roundw
                  case rel => exact ⟨i + 1, by omega, by go_num, HN⟩
                  case measure => first | (simp [intOf]; done) | (simp [intOf]; omega)
            · obtain rfl : i = l.length := by omega
              have HO : Hid (OwnI wr V.heap.size _ (mvL x a l)) := Lib.hid (by have := HI.out.own; rw [List.take_length] at this; unfold mvL; rw [if_neg HA1.out, List.append_nil]; exact this)
              go_wp2_with fail
              go_ret2
              rw [HST.out]
              exact rowE_own HO.out (HV.out.trans (HI.out.u.mono HV.out.size))
  · have hx1 : atL l x < 0 := atL_neg.2 hx
    have hst : stepR l x a = ([], 11) := by
      have : stepE l x a = 11 := by unfold stepE; rw [if_pos (.inl hx)]
      unfold stepR
      rw [this, if_neg (by decide)]
    have HST := Lib.hid hst
    have H1 := Lib.hid (HAt.out x)
    generalize atL l x = p at *
    clear hst h hx hbox hbv HAt
    go_enter Try.func20, Try.ntmps20
    go_wp2_with fail
    refine H1.out.mono ?_
    rintro e w3 ⟨rfl, rfl⟩
    rename World => V
    go_wp2_with fail
    go_ret2
    rw [HST.out]
    exact rowE_err HV.out
end Go.Proofs.Ytejgcpohdbiaoaa
