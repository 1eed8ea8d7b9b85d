/- The walk of Gone. -/
import Derived.Test.YtakgnpmfnechhaaInvW
import Derived.Test.YtakgnpmfnechhaaAtW
namespace Go.Proofs.Ytakgnpmfnechhaa
open Go.RowKit

def gonM (o : Int) (l : List Int) : List Int × Int := if chkM o l ≠ 0 then ([], chkM o l) else (goneL o.toNat l, 0)
theorem mapE_at {r : Int × List Int} {f : Int} {n : Nat} {w : World} {e : Ending} {w' : World} (h : MapE (r, f) w e w') (hn : r.2.length = n) : ∃ A, e = .returned (.tuple #[.agg #[.int .i64 r.1, .slice A n n], .int .i64 f]) ∧ SlI w' A n r.2 ∧ Far w A ∧ Below w.heap.size w w' := by
  subst hn; exact h
set_option maxHeartbeats 2000000 in
theorem gone_err {w : World} {A : Option Addr} {c : Nat} {l : List Int} (o : Int) (h : SlI w A c l) {p : Int} (hp : chkM o l = p) (h0 : p ≠ 0) :
    Calls Try.prog 15 #[.agg #[.int .i64 o, .slice A l.length c]] w (RowX ([], p) w) := by
  have hm := Mv.new (o := o) h
  have K := Lib.hid (invert_err o hm.sl hp h0)
  have HU := Lib.hid (below_new w (.cells #[.int .i64 o, .slice A l.length c] 24))
  have hq1 : (p == 0) = false := by simpa using h0
  have hq2 : (p != 0) = true := by simpa using h0
  obtain ⟨a0, a1⟩ := hm.cells
  clear h hm hp h0
  go_enter Try.func15, Try.ntmps15
  go_wp2_with fail
  refine K.out.mono ?_
  intro e w1 h1
  obtain ⟨A1, rfl, hs, hf, hb⟩ := mapE_at h1 (show ([] : List Int).length = 0 from rfl)
  have HB := Lib.hid ((HU.out.trans (hb.mono HU.out.size)).trans ((below_new w1 (.cells #[.int .i64 0, .slice A1 0 0] 24)).mono (HU.out.trans (hb.mono HU.out.size)).size))
  clear K hs hf hb h1 a0 a1 HU
  go_wp2_with fail
  go_ret2
  exact rowX_err HB.out
structure GoI (w wr : World) (x : Value) (l : List Int) (i : Nat) : Prop where
  own : OwnI wr w.heap.size x (goneL i l)
  u : Below w.heap.size w wr
theorem GoI.next {w wr w' : World} {x : Value} {l : List Int} {i : Nat} (h : GoI w wr x l i) (hb : Below wr.heap.size wr w') : GoI w w' x l i := ⟨h.own.next hb, h.u.trans (hb.mono h.u.size)⟩
set_option maxRecDepth 100000 in
set_option maxHeartbeats 4000000 in
theorem gone_ok {w : World} {A : Option Addr} {c : Nat} {l : List Int} (n : Nat) (h : SlI w A c l) (hv : Vm n l) :
    Calls Try.prog 15 #[.agg #[.int .i64 n, .slice A l.length c]] w (RowX (goneL n l, 0) w) := by
  have hm := Mv.new (o := n) h
  have K := Lib.hid (invert_ok n hm.sl hv)
  have HU := Lib.hid (below_new w (.cells #[.int .i64 n, .slice A l.length c] 24))
  have hn : n ≤ 4096 := by have := hv.o1; omega
  have hl : l.length ≤ 4096 := hv.len
  obtain ⟨a0, a1⟩ := hm.cells
  clear h hm hv
  go_enter Try.func15, Try.ntmps15
  go_wp2_with fail
  refine K.out.mono ?_
  intro e w1 h1
  obtain ⟨A1, rfl, hs, hf, hb⟩ := mapE_at h1 (invL_len n l)
  have hs1 : SlI w1 A1 n (invL n l) := hs
  have HU1 := HU.out.trans (hb.mono HU.out.size)
  have hbn := below_new w1 (.cells #[.int .i64 l.length, .slice A1 n n] 24)
  have HS := Lib.hid (hs1.next hbn)
  have HWV := Lib.hid (HU1.trans (hbn.mono HU1.size))
  obtain ⟨V, hV⟩ : ∃ V : World, w1.alloc (.cells #[.int .i64 l.length, .slice A1 n n] 24) = V := ⟨_, rfl⟩
  rw [hV] at HS HWV
  have H0 : Hid (GoI V V (.slice none 0 0) l 0) := Lib.hid ⟨own_nil _ _, Below.refl _ _⟩
  have hv1 : V.cell? ⟨w1.heap.size, 1, none⟩ = some (.slice A1 n n) := by rw [← hV]; exact cell_of_row _ _ 1 _ 24 (0, 0) (heap_alloc_new w1 _)
  clear K hs hs1 hf hb h1 a0 a1 HU HU1 hbn
  go_wp2_with fail
  clear hV hv1
  go_loopw [6, 20] (fun x v wr => ∃ i : Nat, i ≤ n ∧ v = .int .i64 i ∧ Hid (GoI V wr x l i)) (fun _ v _ => n - (intOf v).toNat)
  case atStart => exact ⟨0, Nat.zero_le _, rfl, H0⟩
  case round =>
    obtain ⟨i, hi, rfl, HI⟩ := hrel
    clear H0
    by_cases hlt : i < n
    · obtain ⟨b, q, rfl, hb, hc⟩ := HS.out.rd.below HI.out.u i (by rw [invL_len]; exact hlt)
      have hx : (invL n l)[i]'(by rw [invL_len]; exact hlt) = atL l i := by unfold invL; rw [mk_get]
      rw [hx] at hc
      have hst := gone_succ i l
      have hgl := gone_len i l
      clear hx hb
      by_cases hm : (i : Int) ∈ l
      · rw [if_pos hm, List.append_nil] at hst
        have hge : ¬ (atL l i < 0) := fun h => atL_neg.1 h hm
        have HN : Hid (GoI V wr u6 l (i + 1)) := Lib.hid ⟨by rw [hst]; exact HI.out.own, HI.out.u⟩
        obtain ⟨y, hy⟩ : ∃ y, atL l i = y := ⟨_, rfl⟩
        rw [hy] at hc hge
        have hyn : (y == -1) = false := by simp; omega
        clear hst hm hy
        go_wp2_with fail
        go_roundw
        case rel => exact ⟨i + 1, by omega, by go_num, HN⟩
        case measure => first | (simp [intOf]; done) | (simp [intOf]; omega)
      · rw [if_neg hm] at hst
        rw [atL_none hm] at hc
        have HST := Lib.hid hst
        have HO := Lib.hid (HI.out.next (below_new wr (.cells #[.int .i64 i] 3)))
        have HX := Lib.hid (sl_one wr i)
        obtain ⟨G, hG⟩ : ∃ G, goneL i l = G := ⟨_, rfl⟩
        have hown := HO.out.own
        rw [hG] at hown hgl HST
        have HOW := Lib.hid hown
        have hVw := HI.out.u.size
        clear hst hm hG hown
        go_wp2_with (
          at_builtin
          refine wp_app rfl (.tmp 27) (.tmp 29) rfl V.heap.size _ G rfl _ 1 [(i : Int)] 1 rfl rfl HOW.out HX.out (by simp; omega) HO.out.u.size ?_
          intro v2 w2 H2 B2 G2)
        have HN : Hid (GoI V w2 v2 l (i + 1)) := Lib.hid ⟨by rw [HST.out]; exact H2.out, HO.out.u.trans B2.out⟩
        clear H2 B2 G2
        go_roundw
        case rel => exact ⟨i + 1, by omega, by go_num, HN⟩
        case measure => first | (simp [intOf]; done) | (simp [intOf]; omega)
    · obtain rfl : i = n := by omega
      obtain ⟨A3, c3, rfl, hs3⟩ := HI.out.own.sl
      have C := Lib.hid (clip_any hs3)
      have HF := Lib.hid (show RowX (goneL i l, 0) w (.returned (.tuple #[.slice A3 (goneL i l).length (goneL i l).length, .int .i64 0])) wr from ⟨A3, rfl, ⟨hs3.rd, Nat.le_refl _, hs3.len, fun h => by have := hs3.nil h; have := hs3.le; show (goneL i l).length = 0; omega⟩, HWV.out.trans (HI.out.u.mono HWV.out.size)⟩)
      have hl3 := hs3.le
      have hm3 := hs3.max
      clear hs3 HI
      generalize goneL i l = G at *
      go_wp2_with fail
      refine C.out.mono ?_
      rintro e w4 ⟨rfl, rfl⟩
      go_wp2_with fail
      go_ret2
      exact HF.out
theorem gone_any {w : World} {A : Option Addr} {c : Nat} {l : List Int} (o : Int) (h : SlI w A c l) :
    Calls Try.prog 15 #[.agg #[.int .i64 o, .slice A l.length c]] w (RowX (gonM o l) w) := by
  unfold gonM
  by_cases h0 : chkM o l = 0
  · rw [if_neg (by omega)]
    have hv := chkM_zero.1 h0
    obtain ⟨n, rfl⟩ : ∃ n : Nat, o = n := ⟨o.toNat, by have := hv.o0; omega⟩
    rw [Int.toNat_natCast]
    exact gone_ok n h hv
  · rw [if_pos h0]
    exact gone_err o h rfl h0
end Go.Proofs.Ytakgnpmfnechhaa
