/- The walks of slices.Index, slices.Clip, At. -/
import Derived.Test.YtakgnpmfnechhaaMapW
import Derived.Test.YtakgnpmfnechhaaChkW
namespace Go.Proofs.Ytakgnpmfnechhaa
open Go.RowKit

set_option maxHeartbeats 1000000 in
theorem index_any {w : World} {A : Option Addr} (c : Nat) {l : List Int} (h : RdI w w.heap.size A l) (hl : l.length ≤ 9223372036854775807) (x : Int) :
    Calls Try.prog 36 #[.slice A l.length c, .int .i64 x] w (NumS (atL l x) w) := by
  have HR := Lib.hid h
  clear h
  go_enter Try.func36, Try.ntmps36
  go_wp2_with fail
  go_loopw [8] (fun v wr => ∃ i : Nat, i ≤ l.length ∧ v = .int .i64 i ∧ Hid (∀ j (h : j < l.length), j < i → l[j] ≠ x) ∧ w = wr) (fun v _ => l.length - (intOf v).toNat)
  case atStart => exact ⟨0, Nat.zero_le _, rfl, Lib.hid (fun j _ h => absurd h (Nat.not_lt_zero _)), rfl⟩
  case round =>
    obtain ⟨i, hi, rfl, HX, rfl⟩ := hrel
    by_cases hlt : i < l.length
    · obtain ⟨b, o, rfl, hb, hc⟩ := HR.out i hlt
      have HE := Lib.hid (fun e : l[i] = x => atL_eq hlt e HX.out)
      have HN := Lib.hid (fun e : l[i] ≠ x => (show ∀ j (h : j < l.length), j < i + 1 → l[j] ≠ x from fun j hj hji => by
        rcases Nat.lt_succ_iff_lt_or_eq.1 hji with h2 | rfl
        · exact HX.out j hj h2
        · exact e))
      obtain ⟨y, hy⟩ : ∃ y, l[i] = y := ⟨_, rfl⟩
      rw [hy] at hc HE HN
      clear hy hb
      by_cases hk : y = x
      · have HE2 := Lib.hid (HE.out hk)
        subst hk
        clear HE HN
        go_wp2_with fail
        go_ret
        exact ⟨ret_int HE2.out.symm, rfl⟩
      · have HN2 := Lib.hid (HN.out hk)
        have hk2 : (x == y) = false := by simpa using fun e : x = y => hk e.symm
        clear HE HN
        go_wp2_with fail
        go_roundw
        case rel => exact ⟨i + 1, by omega, by go_num, HN2, trivial⟩
        case measure => first | (simp [intOf]; done) | (simp [intOf]; omega)
    · obtain rfl : i = l.length := by omega
      have HE : Hid (atL l x = -1) := Lib.hid (atL_none fun hm => by
        obtain ⟨j, hj, e⟩ := List.getElem_of_mem hm
        exact HX.out j hj hj e)
      go_wp2_with fail
      go_ret
      exact ⟨ret_int HE.out.symm, rfl⟩
theorem clip_any {w : World} {A : Option Addr} {c : Nat} {l : List Int} (h : SlI w A c l) : Calls Try.prog 37 #[.slice A l.length c] w fun e w' => e = .returned (.slice A l.length l.length) ∧ w = w' := by
  have hle := h.le
  have hmx := h.max
  cases hA : A with
  | none =>
    have hc := h.nil hA
    obtain rfl : l = [] := List.eq_nil_of_length_eq_zero (by omega)
    subst hc
    clear h hle hmx
    go_enter Try.func37, Try.ntmps37
    go_wp2_with fail
    go_ret
    exact ⟨rfl, rfl⟩
  | some p =>
    clear h hA
    go_enter Try.func37, Try.ntmps37
    go_wp2_with fail
    go_ret
    exact ⟨by simp, rfl⟩
/-- two numbers are returned -/
def Num2 (r : Int × Int) (w : World) (e : Ending) (w' : World) : Prop := e = .returned (.tuple #[.int .i64 r.1, .int .i64 r.2]) ∧ Below w.heap.size w w'
def atM (o : Int) (l : List Int) (x : Int) : Int × Int := if chkM o l ≠ 0 then (0, chkM o l) else if x < 0 ∨ o ≤ x then (0, 4) else if atL l x < 0 then (0, 11) else (atL l x, 0)
set_option maxHeartbeats 4000000 in
theorem at_map {w : World} {A : Option Addr} {c : Nat} {l : List Int} (o : Int) (h : SlI w A c l) (x : Int) :
    Calls Try.prog 14 #[.agg #[.int .i64 o, .slice A l.length c], .int .i64 x] w (Num2 (atM o l x) w) := by
  have hm := Mv.new (o := o) h
  have K := check_any o c hm.sl.rd h.len
  obtain ⟨p, hp⟩ : ∃ p, chkM o l = p := ⟨_, rfl⟩
  rw [hp] at K
  have K := Lib.hid K
  have HM := Lib.hid hm
  have HU := Lib.hid (below_new w (.cells #[.int .i64 o, .slice A l.length c] 24))
  have hl := h.len
  obtain ⟨a0, a1⟩ := hm.cells
  by_cases h0 : p = 0
  · by_cases hx : x < 0 ∨ o ≤ x
    · have e : atM o l x = (0, 4) := by unfold atM; rw [hp, if_neg (by omega), if_pos hx]
      rw [e]
      subst h0
      clear h hm hp e
      by_cases hx0 : x < 0
      · clear hx
        go_enter Try.func14, Try.ntmps14
        go_wp2_with fail
        refine K.out.mono ?_
        rintro e w1 ⟨rfl, hb⟩
        have HB := Lib.hid (HU.out.trans (hb.mono HU.out.size))
        obtain ⟨b0, b1⟩ := (HM.out.next hb).cells
        clear K hb a0 a1 HM HU
        go_wp2_with fail
        go_ret2
        exact ⟨rfl, HB.out⟩
      · have hx1 : o ≤ x := by omega
        clear hx
        go_enter Try.func14, Try.ntmps14
        go_wp2_with fail
        refine K.out.mono ?_
        rintro e w1 ⟨rfl, hb⟩
        have HB := Lib.hid (HU.out.trans (hb.mono HU.out.size))
        obtain ⟨b0, b1⟩ := (HM.out.next hb).cells
        clear K hb a0 a1 HM HU
        go_wp2_with fail
        go_ret2
        exact ⟨rfl, HB.out⟩
    · obtain ⟨r, hr⟩ : ∃ r, atL l x = r := ⟨_, rfl⟩
      have hx0 : ¬ (x < 0) := by omega
      have hx1 : ¬ (o ≤ x) := by omega
      have HR := Lib.hid hr
      by_cases hr0 : r < 0
      · have e : atM o l x = (0, 11) := by unfold atM; rw [hp, if_neg (by omega), if_neg hx, hr, if_pos hr0]
        rw [e]
        subst h0
        clear h hm hp e hx hr
        go_enter Try.func14, Try.ntmps14
        go_wp2_with fail
        refine K.out.mono ?_
        rintro e w1 ⟨rfl, hb⟩
        have HB := Lib.hid (HU.out.trans (hb.mono HU.out.size))
        obtain ⟨b0, b1⟩ := (HM.out.next hb).cells
        have I := index_any c (HM.out.next hb).sl.rd hl x
        rw [HR.out] at I
        have I := Lib.hid I
        clear K hb a0 a1 HM HU
        go_wp2_with fail
        refine I.out.mono ?_
        rintro e w2 ⟨rfl, rfl⟩
        go_wp2_with fail
        go_ret2
        exact ⟨rfl, HB.out⟩
      · have e : atM o l x = (r, 0) := by unfold atM; rw [hp, if_neg (by omega), if_neg hx, hr, if_neg hr0]
        rw [e]
        subst h0
        clear h hm hp e hx hr
        go_enter Try.func14, Try.ntmps14
        go_wp2_with fail
        refine K.out.mono ?_
        rintro e w1 ⟨rfl, hb⟩
        have HB := Lib.hid (HU.out.trans (hb.mono HU.out.size))
        obtain ⟨b0, b1⟩ := (HM.out.next hb).cells
        have I := index_any c (HM.out.next hb).sl.rd hl x
        rw [HR.out] at I
        have I := Lib.hid I
        clear K hb a0 a1 HM HU
        go_wp2_with fail
        refine I.out.mono ?_
        rintro e w2 ⟨rfl, rfl⟩
        go_wp2_with fail
        go_ret2
        exact ⟨rfl, HB.out⟩
  · have e : atM o l x = (0, p) := by unfold atM; rw [hp, if_pos h0]
    rw [e]
    have hq1 : (p == 0) = false := by simpa using h0
    have hq2 : (p != 0) = true := by simpa using h0
    clear h hm hp e h0
    go_enter Try.func14, Try.ntmps14
    go_wp2_with fail
    refine K.out.mono ?_
    rintro e w1 ⟨rfl, hb⟩
    have HB := Lib.hid (HU.out.trans (hb.mono HU.out.size))
    clear K hb a0 a1 HM HU
    go_wp2_with fail
    go_ret2
    exact ⟨rfl, HB.out⟩
end Go.Proofs.Ytakgnpmfnechhaa
