/- places, Check: the positions of an order's numbers. -/
import Derived.Test.YtejgcpohdbiaoaaMapW
import Derived.Deep.Cut
namespace Go.Proofs.Ytejgcpohdbiaoaa
open Go.RowKit

/-- positions, as a function -/
def posF (l : List Int) (x : Int) : Option Int := if x ∈ l then some (atL l x) else none
theorem posF_step {l : List Int} {i : Nat} (hi : i < l.length) (hn : l[i] ∉ l.take i) : (fun z => if z = l[i] then some (i : Int) else posF (l.take i) z) = posF (l.take (i + 1)) := by
  have e : l.take (i + 1) = l.take i ++ [l[i]] := List.take_succ_eq_append_getElem hi
  have hl : (l.take i).length = i := by rw [List.length_take]; omega
  funext z
  unfold posF
  rw [e]
  by_cases hz : z = l[i]
  · rw [if_pos hz, if_pos (List.mem_append.2 (.inr (by simp [hz])))]
    congr 1
    subst hz
    refine (atL_eq (by simp; omega) (by rw [List.getElem_append_right (by omega)]; simp [hl]) fun j h hj he => hn ?_).symm
    rw [List.getElem_append_left (by omega)] at he
    rw [← he]
    exact List.getElem_mem _
  · rw [if_neg hz]
    by_cases hm : z ∈ l.take i
    · have hm2 : z ∈ l.take i ++ [l[i]] := List.mem_append.2 (.inl hm)
      rw [if_pos hm, if_pos hm2]
      congr 1
      rw [atL_mem hm, atL_mem hm2, List.idxOf_append, if_pos hm]
    · rw [if_neg hm, if_neg (fun h => by
        rcases List.mem_append.1 h with h | h
        · exact hm h
        · exact hz (by simpa using h))]
/-- all of a list lie in the range of int -/
def Rng (l : List Int) : Prop := ∀ x ∈ l, I64 x
theorem Rng.get {l : List Int} (h : Rng l) {i : Nat} (hi : i < l.length) : I64 l[i] := h _ (List.getElem_mem hi)
theorem MpI.congr {w : World} {b n : Nat} {f g : Int → Option Int} (h : MpI w b n f) (e : f = g) : MpI w b n g := e ▸ h
/-- what places hands back -/
def Plc (l : List Int) (w : World) (e : Ending) (w' : World) : Prop :=
  ((chk l ≠ 0 ∧ e = .returned (.tuple #[.map none, .int .i64 (chk l)])) ∨ (Ord l ∧ ∃ b, e = .returned (.tuple #[.map (some b), .int .i64 0]) ∧ w.heap.size ≤ b ∧ MpI w' b l.length (posF l))) ∧ Below w.heap.size w w'
theorem plc_err {l : List Int} {w W : World} {f : Int} (hf : f = chk l) (h0 : f ≠ 0) (hb : Below w.heap.size w W) : Plc l w (.returned (.tuple #[.map none, .int .i64 f])) W := by
  subst hf
  exact ⟨.inl ⟨h0, rfl⟩, hb⟩
/-- ahead of each round -/
structure PlI (w wr : World) (b : Nat) (l : List Int) (i : Nat) : Prop where
  map : MpI wr b i (posF (l.take i))
  ok : chkG [] l = chkG (l.take i) (l.drop i)
  u : Below w.heap.size w wr
  new : w.heap.size ≤ b
set_option maxRecDepth 100000 in
set_option maxHeartbeats 4000000 in
theorem places_any {w : World} {A : Option Addr} {c : Nat} {l : List Int} (h : SlI w A c l) (hR : Rng l) :
    Calls Try.prog 28 #[.slice A l.length c] w (Plc l w) := by
  have hle := h.le
  have hmx := h.max
  by_cases hl : 4096 < l.length
  · have hl2 : (4096 : Int) < (l.length : Int) := by omega
    have HC : Hid (chk l = 3) := Lib.hid (by unfold chk; rw [if_pos hl])
    clear h
    go_enter Try.func28, Try.ntmps28
    go_wp2_with fail
    go_ret2
    exact plc_err HC.out.symm (by decide) (Below.refl _ _)
  · have hl2 : (l.length : Int) ≤ 4096 := by omega
    have HC : Hid (chk l = chkG [] l) := Lib.hid (by unfold chk; rw [if_neg hl])
    have HR := Lib.hid hR
    have HS := Lib.hid h.rd
    have hmk := run_make61 l.length l.length rfl
    obtain ⟨b, hb⟩ : ∃ b : Nat, w.heap.size = b := ⟨_, rfl⟩
    obtain ⟨V, hV⟩ : ∃ V : World, w.alloc (.map #[] 0) = V := ⟨_, rfl⟩
    have H0 : Hid (PlI w V b l 0) := Lib.hid (by
      rw [← hV, ← hb]
      exact ⟨(MpI.made w).congr (by funext z; simp [posF]), rfl, below_new _ _, Nat.le_refl _⟩)
    clear h hR hmx hle
    go_enter Try.func28, Try.ntmps28
    go_upto_region 4 with fail
    clear hV hmk
    have HB := Lib.hid hb
    clear hb
    go_wp2_with fail
    go_loopw [17] (fun v wr => ∃ (i : Nat), v = .int .i64 i ∧ i ≤ l.length ∧ Hid (PlI w wr b l i)) (fun v _ => l.length - (intOf v).toNat)
    case atStart => exact ⟨0, rfl, Nat.zero_le _, H0⟩
    case round =>
      clear H0
      obtain ⟨i, rfl, hi, HI⟩ := hrel
      by_cases hlt : i < l.length
      · have hrd : RdI wr w.heap.size A l := HS.out.below HI.out.u
        obtain ⟨b', o, hA, hb', hc⟩ := hrd i hlt
        have hx := HR.out.get hlt
        have hst := chkG_step hlt
        have hps := @posF_step l i hlt
        have hok := HI.out.ok
        rw [hst] at hok
        obtain ⟨x, hxx⟩ : ∃ x, l[i] = x := ⟨_, rfl⟩
        rw [hxx] at hc hx hok hps
        clear hrd hst hxx
        subst hA
        by_cases hneg : x < 0
        · rw [if_pos hneg] at hok
          have HK := Lib.hid hok
          clear hok hx hps
          go_wp2_with fail
          go_ret2
          exact plc_err (by rw [HC.out, HK.out]) (by decide) HI.out.u
        · rw [if_neg hneg] at hok
          by_cases hmem : x ∈ l.take i
          · rw [if_pos hmem] at hok
            have HK := Lib.hid hok
            have HX := Lib.hid hx
            have HF : Hid (posF (l.take i) x = some (atL (l.take i) x)) := Lib.hid (by unfold posF; rw [if_pos hmem])
            clear hok hx hps hmem
            go_wp2_with (at_lookup; refine wp_there rfl (.tmp 25) (.tmp 26) rfl b i _ rfl HI.out.map x _ rfl HX.out HF.out ?_)
            go_ret2
            exact plc_err (by rw [HC.out, HK.out]) (by decide) HI.out.u
          · rw [if_neg hmem] at hok
            have HK := Lib.hid hok
            have HX := Lib.hid hx
            have HF : Hid (posF (l.take i) x = none) := Lib.hid (by unfold posF; rw [if_neg hmem])
            have HP := Lib.hid (hps hmem)
            have hi9 : i ≤ 100000 := by omega
            have hiy : Hid (I64 (i : Int)) := Lib.hid (by unfold I64; omega)
            clear hok hx hps hmem
            go_wp2_with (first
              | (at_lookup; refine wp_gone rfl (.tmp 25) (.tmp 26) rfl b i _ rfl HI.out.map x rfl HX.out HF.out ?_)
              | (at_mapUpdate; refine wp_store rfl (.tmp 31) (.tmp 32) (.tmp 33) rfl b i _ rfl HI.out.map hi9 x i rfl rfl HX.out hiy.out ?_; intro w3 H3 G3))
            have HN : Hid (PlI w w3 b l (i + 1)) := Lib.hid ⟨H3.out.congr HP.out, HK.out, HI.out.u.grown G3.out HI.out.u.size (fun k e => by injection e with e; rw [← e]; exact HI.out.new), HI.out.new⟩
            go_roundw
            case rel => exact ⟨i + 1, by go_num, by omega, HN⟩
            case measure => simp [intOf]; omega
      · obtain rfl : i = l.length := by omega
        have hI := HI.out
        have hok := hI.ok
        have hmp := hI.map
        rw [List.drop_length] at hok
        rw [List.take_length] at hmp
        have hck : chk l = 0 := by rw [HC.out, hok]; rfl
        have HO := Lib.hid (chk_zero.1 hck)
        have HM := Lib.hid hmp
        clear hok hmp hck hI
        go_wp2_with fail
        go_ret2
        exact ⟨.inr ⟨HO.out, b, rfl, HI.out.new, HM.out⟩, HI.out.u⟩
end Go.Proofs.Ytejgcpohdbiaoaa
