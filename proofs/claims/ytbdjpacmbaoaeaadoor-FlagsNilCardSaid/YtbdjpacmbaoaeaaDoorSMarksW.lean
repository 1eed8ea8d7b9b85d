/- The walks of the reference's Spans, and of marks and Of of S. -/
import Derived.Test.YtbdjpacmbaoaeaaDoorSMarks
import Derived.Test.YtbdjpacmbaoaeaaDoorSAddW
namespace Go.Proofs.YtbdjpacmbaoaeaaDoor.S
open Go.RowKit
/-- The slice value '.slice A n c' reads as the list of bools ms, all of it below block B. -/
def RdB (w : World) (B : Nat) (A : Option Addr) (ms : List Bool) : Prop :=
  ∀ k (h : k < ms.length), ∃ b o, A = some ⟨b, o, none⟩ ∧ b < B ∧ w.cell? ⟨b, o + k, none⟩ = some (.bool ms[k])
theorem RdB.below {w w' : World} {B : Nat} {A : Option Addr} {ms : List Bool} (h : RdB w B A ms) (hb : Below B w w') : RdB w' B A ms := fun k hl => by
  obtain ⟨b, o, e, h0, h1⟩ := h k hl
  exact ⟨b, o, e, h0, (hb.cell (p := ⟨b, o + k, none⟩) h0).trans h1⟩
theorem RdB.more {w : World} {B B' : Nat} {A : Option Addr} {ms : List Bool} (h : RdB w B A ms) (hB : B ≤ B') : RdB w B' A ms := fun k hl => by
  obtain ⟨b, o, e, h0, h1⟩ := h k hl
  exact ⟨b, o, e, by omega, h1⟩
theorem RdB.next {W W' : World} {A : Option Addr} {ms : List Bool} (h : RdB W W.heap.size A ms) (hb : Below W.heap.size W W') : RdB W' W'.heap.size A ms := (h.below hb).more hb.size
theorem RdB.take {w : World} {B : Nat} {A : Option Addr} {ms : List Bool} (h : RdB w B A ms) (m : Nat) : RdB w B A (ms.take m) := fun k hl => by
  have hk : k < ms.length := by rw [List.length_take] at hl; omega
  obtain ⟨b, o, e, h0, h1⟩ := h k hk
  exact ⟨b, o, e, h0, by rw [h1, List.getElem_take]⟩

set_option maxHeartbeats 4000000 in
theorem refSpans_any (A : Option Addr) (c : Nat) (ms : List Bool) (w : World) (hr : RdB w w.heap.size A ms) (hl : ms.length ≤ 1000000) :
    Calls Tryd.prog 28 #[.slice A ms.length c] w fun e w' => ∃ v L, e = .returned v ∧ MkSet ms L ∧ Own w' w.heap.size 57 v L ∧ Below w.heap.size w w' := by
  obtain ⟨i0, hi0, hz0, hz1, hz2⟩ := info_parts Tryd.info57
  go_enter Tryd.func28, Tryd.ntmps28
  go_wp2
  go_loopw [3, 4] (fun uo ui wr => ∃ (k : Nat) (out : List Sp), ui = .int .i64 k ∧ k ≤ ms.length ∧ Own wr w.heap.size 57 uo out ∧ OfM ms k out ∧ Below w.heap.size w wr) (fun _ ui _ => ms.length - (intOf ui).toNat)
  case atStart => exact ⟨0, [], rfl, Nat.zero_le _, World.ownsRow_nil _ _ _ _, OfM.start ms, Below.refl _ _⟩
  case round =>
    obtain ⟨k, out, rfl, hk, ho, hs, hb⟩ := hrel
    by_cases hlt : k < ms.length
    · have hmk := mk_nat ms hlt
      obtain ⟨b, o, hA, hbl, c0⟩ := hr.below hb k hlt
      subst hA
      have hol := hs.len
      have hsz := hb.size
      have hi1 : (0 : Int) ≤ (k : Int) := Int.natCast_nonneg _
      have hi2 : (k : Int) < (ms.length : Int) := by omega
      cases hm : ms[k] with
      | false =>
        rw [hm] at hmk c0
        have hs' := hs.skip hmk
        clear hs hm hmk
        go_wp2_with fail
        go_roundw
        case rel => exact ⟨k + 1, out, by go_num, by omega, ho, hs', hb⟩
        case measure => simp [intOf]; omega
      | true =>
        rw [hm] at hmk c0
        clear hm
        by_cases hk0 : k ≤ 0
        · have hs' := hs.new hmk (.inl (by omega)) (by omega)
          have hd1 : decide ((0 : Int) < (k : Int)) = false := by simp; omega
          have hd2 : decide (0 < k) = false := by simp; omega
          clear hs hmk
          obtain ⟨B0, d0, rfl, hd0, hrd0⟩ := ho.rd
          clear hd0 hrd0
          go_wp2_with (
            at_builtin
            refine wpList_append_lies _ rfl (.tmp 33) (.tmp 38) _ rfl w.heap.size 57 i0 _ 2 16 Tryd.underlying53 hi0 hz0 hz1 hz2 rfl (by omega) (.slice B0 out.length d0) out.length (flat out) rfl (World.ownsRow.alloc ho _)
              ⟨wr.heap.size, 0, none⟩ 1 1 [.int .i64 (k : Int), .int .i64 ((k : Int) + 1)] rfl rfl (World.news_of_block (cs := #[.int .i64 (k : Int), .int .i64 ((k : Int) + 1)]) (t := 57) (fr := (0, 0)) (heap_alloc_new wr _)) (by simp [Value.oneCell'])
              (by omega) (by simp [maxLen]; omega) (by omega) (by simp; omega) (wr.heap.size + 1) (by simp) ?_
            intro gg cap2 w1 hown1 hgrow hat hlt1
            have ho1 := own_app1 hown1
            have hb1 : Below w.heap.size w w1 := (hb.alloc hsz _).grown hgrow (by simp; omega) (fun j e => (ho.lt j e).1)
            clear hown1 hgrow hat hlt1)
          go_roundw
          case rel => exact ⟨k + 1, _, by go_num, by omega, ho1, hs', hb1⟩
          case measure => simp [intOf]; omega
        · have hkp : k - 1 < ms.length := by omega
          have hmp := mk_nat ms hkp
          rw [show (((k - 1 : Nat)) : Int) = (k : Int) - 1 from by omega] at hmp
          obtain ⟨b2, o2, hA2, _, c1⟩ := hr.below hb (k - 1) hkp
          obtain ⟨rfl, rfl⟩ : b = b2 ∧ o = o2 := by injection hA2 with hA; injection hA with h1 h2; exact ⟨h1, h2⟩
          clear hA2
          have hd1 : decide ((0 : Int) < (k : Int)) = true := by simp; omega
          have hd2 : decide (0 < k) = true := by simp; omega
          have hi3 : (0 : Int) ≤ (k : Int) - 1 := by omega
          have hi4 : (k : Int) - 1 < (ms.length : Int) := by omega
          cases hm2 : ms[k - 1] with
          | false =>
            rw [hm2] at hmp c1
            have hs' := hs.new hmk (.inr hmp) (by omega)
            clear hs hmk hmp hm2
            obtain ⟨B0, d0, rfl, hd0, hrd0⟩ := ho.rd
            clear hd0 hrd0
            go_wp2_with (
              at_builtin
              refine wpList_append_lies _ rfl (.tmp 33) (.tmp 38) _ rfl w.heap.size 57 i0 _ 2 16 Tryd.underlying53 hi0 hz0 hz1 hz2 rfl (by omega) (.slice B0 out.length d0) out.length (flat out) rfl (World.ownsRow.alloc ho _)
                ⟨wr.heap.size, 0, none⟩ 1 1 [.int .i64 (k : Int), .int .i64 ((k : Int) + 1)] rfl rfl (World.news_of_block (cs := #[.int .i64 (k : Int), .int .i64 ((k : Int) + 1)]) (t := 57) (fr := (0, 0)) (heap_alloc_new wr _)) (by simp [Value.oneCell'])
                (by omega) (by simp [maxLen]; omega) (by omega) (by simp; omega) (wr.heap.size + 1) (by simp) ?_
              intro gg cap2 w1 hown1 hgrow hat hlt1
              have ho1 := own_app1 hown1
              have hb1 : Below w.heap.size w w1 := (hb.alloc hsz _).grown hgrow (by simp; omega) (fun j e => (ho.lt j e).1)
              clear hown1 hgrow hat hlt1)
            go_roundw
            case rel => exact ⟨k + 1, _, by go_num, by omega, ho1, hs', hb1⟩
            case measure => simp [intOf]; omega
          | true =>
            rw [hm2] at hmp c1
            obtain ⟨hn, p, hget, hs'⟩ := hs.grow hmk (by omega) hmp (by omega)
            have hkl : out.length - 1 < out.length := by omega
            have hlk : out[out.length - 1] = (p, (k : Int)) := by rw [← hget]; simp [List.getD, List.getElem?_eq_getElem hkl]
            obtain ⟨g, cap, hv, hbg, hglt⟩ := ho.form hn
            subst hv
            obtain ⟨f1, f2⟩ := flat_get out (out.length - 1) hkl
            rw [hlk] at f1 f2
            have hcl := ho.cellAt ((out.length - 1) * 2 + 1) (by omega)
            rw [f2] at hcl
            have hf := ho.frozenAt ((out.length - 1) * 2 + 1)
            have hst := (ho : wr.ownsRow _ _ _ _ _ _).stored ((out.length - 1) * 2 + 1) (.int .i64 ((k : Int) + 1))
            rw [flat_set2 out _ hkl p ((k : Int) + 1) (by rw [hlk])] at hst
            have ho1 : Own (wr.setCell ⟨g, (out.length - 1) * 2 + 1, none⟩ (.int .i64 ((k : Int) + 1))) w.heap.size 57 (.slice (some ⟨g, 0, none⟩) out.length cap) (out.set (out.length - 1) (p, (k : Int) + 1)) := by
              unfold Own; rw [List.length_set]; exact hst.1
            have HS' := Lib.hid hs'
            have HO1 := Lib.hid ho1
            have hx0 : (0 : Int) ≤ (out.length : Int) - 1 := by omega
            have hx1 : (out.length : Int) - 1 < (out.length : Int) := by omega
            clear hs hmk hmp hm2 f1 f2 hlk hget hst ho1 hs'
            go_wp2_with fail
            go_roundw
            case rel => exact ⟨k + 1, _, by go_num, by omega, HO1.out, HS'.out, hb.setCell (p := ⟨g, (out.length - 1) * 2 + 1, none⟩) hbg _⟩
            case measure => simp [intOf]; omega
    · have hd := hs.done (by omega)
      clear hs
      go_wp2_with fail
      go_ret
      exact ⟨_, out, rfl, hd, ho, hb⟩
end Go.Proofs.YtbdjpacmbaoaeaaDoor.S
