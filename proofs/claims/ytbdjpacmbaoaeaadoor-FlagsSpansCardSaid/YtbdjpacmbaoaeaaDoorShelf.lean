/- The contract of math/bits.TrailingZeros64, laid at this dump, and what it means for a number's bits. -/
import Derived.Shelf.Spec.TrailingZeros
import Derived.Test.YtbdjpacmbaoaeaaDoorBase
namespace Go.Proofs.YtbdjpacmbaoaeaaDoor
open Go.Shelf Go.RowKit
def Tryd.lays29_ren : Go.Shelf.Ren := ⟨fun | 29 => 39 | n => n, fun | 22 => 61 | 25 => 83 | 54 => 84 | n => n, fun | 1 => 0 | n => n⟩
theorem Tryd.lays29 : Go.Proofs.Lays7.n29 Tryd.prog Tryd.lays29_ren := {
  mixed := by kernel_rfl
  f29 := Tryd.func39.trans (congrArg some (by kernel_rfl))
  t0 := by kernel_rfl
  a0 := fun _ => by kernel_rfl
  z0 := fun _ => by kernel_rfl
  v0 := fun _ => by kernel_rfl
  i0 := by kernel_rfl
  t3 := Tryd.underlying3
  a3 := Tryd.isAgg3
  z3 := Tryd.sizeOf3
  v3 := Tryd.zeroValue3
  i3 := by kernel_rfl
  t4 := Tryd.underlying4
  a4 := Tryd.isAgg4
  z4 := Tryd.sizeOf4
  v4 := Tryd.zeroValue4
  i4 := by kernel_rfl
  t5 := Tryd.underlying5
  a5 := Tryd.isAgg5
  z5 := Tryd.sizeOf5
  v5 := Tryd.zeroValue5
  i5 := by kernel_rfl
  t22 := Tryd.underlying61
  a22 := Tryd.isAgg61
  z22 := Tryd.sizeOf61
  v22 := Tryd.zeroValue61
  i22 := by kernel_rfl
  t25 := by kernel_rfl
  a25 := fun _ => by kernel_rfl
  z25 := fun _ => by kernel_rfl
  v25 := fun _ => by kernel_rfl
  i25 := by kernel_rfl
  t54 := by kernel_rfl
  a54 := fun _ => by kernel_rfl
  z54 := fun _ => by kernel_rfl
  g1 := by kernel_rfl }
/-- the library's table lies in its variable -/
abbrev Tab (w : World) : Prop := TabAt 0 Lib.deBruijn64tab w
theorem Tab.heap {w w' : World} (h : Tab w) (e : w'.heap[0]? = w.heap[0]?) : Tab w' := by
  intro j hj
  have := h j hj
  unfold World.cell? at this ⊢
  simp only [e]
  exact this
theorem tz_any (x : Nat) (hx : x < 18446744073709551616) (w : World) (hT : Tab w) : Calls Tryd.prog 39 #[.int .u64 x] w fun e w' => e = .returned (.int .i64 (Lib.ctz 64 x : Nat)) ∧ w = w' :=
  (Any7.bits_TrailingZeros64 Tryd.lays29 x hx w (fun _ => hT)).mono fun _ _ h => ⟨h.1, h.2.symm⟩

theorem and_u64_pred (x : Nat) (h : x < 18446744073709551616) (h0 : 0 < x) : bits BinOp.and IntKind.u64 (x : Int) ((x : Int) - 1) = ((x &&& (x - 1) : Nat) : Int) := by
  have e : ((x : Int) - 1) = ((x - 1 : Nat) : Int) := by omega
  rw [e]
  exact bits_and_u64_nat x (x - 1) h (by omega)
set_option maxHeartbeats 1000000 in
theorem selIn_any (bs : List Bool) (hb : bs.length ≤ 64) (k : Nat) (hk : k < cnt bs) (w : World) (hT : Tab w) : Calls Tryd.prog 38 #[.int .u64 (ofBits bs : Nat), .int .i64 k] w fun e w' => e = .returned (.int .i64 (sel k bs : Nat)) ∧ w = w' := by
  have HT := Lib.hid hT
  have hkl : k < 64 := by have := cnt_le bs; omega
  clear hT
  go_enter Tryd.func38, Tryd.ntmps38
  go_wp2_with fail
  go_loop [0, 6] (fun x i => ∃ (j : Nat) (cs : List Bool), x = .int .u64 (ofBits cs : Nat) ∧ i = .int .i64 j ∧ j ≤ k ∧ cs.length ≤ 64 ∧ Hid (k < cnt cs + j) ∧ Hid (sel (k - j) cs = sel k bs)) (fun _ i => k - (intOf i).toNat)
  case atStart => exact ⟨0, bs, rfl, rfl, Nat.zero_le _, hb, Lib.hid (by omega), Lib.hid rfl⟩
  case round =>
    obtain ⟨j, cs, rfl, rfl, hj, hcs, H1, H2⟩ := hrel
    by_cases hlt : j < k
    · have hp := ofBits_pos cs (by have := H1.out; omega)
      have hl : ofBits cs < 18446744073709551616 := by
        have := ofBits_lt cs
        have h2 : 2 ^ cs.length ≤ 2 ^ 64 := Nat.pow_le_pow_right (by decide) hcs
        omega
      have ea := and_u64_pred (ofBits cs) hl hp
      rw [ofBits_clr cs (by have := H1.out; omega)] at ea
      have hcl := clr_len cs
      have H1' : Hid (k < cnt (clr cs) + (j + 1)) := Lib.hid (by rw [cnt_clr]; have := H1.out; omega)
      have H2' : Hid (sel (k - (j + 1)) (clr cs) = sel k bs) := Lib.hid (by rw [sel_clr, show k - (j + 1) + 1 = k - j by omega]; exact H2.out)
      generalize clr cs = ds at *
      generalize ofBits cs = x at *
      clear H1 H2
      go_wp2_with fail
      go_round
      case rel => exact ⟨j + 1, ds, rfl, by go_num, by omega, by omega, H1', H2'⟩
      case measure => simp [intOf]; omega
    · obtain rfl : j = k := by omega
      have hz : Lib.ctz 64 (ofBits cs) = sel j bs := by
        have := H2.out
        rw [Nat.sub_self] at this
        rw [← this]
        exact ctz_sel64 cs hcs (by have := H1.out; omega)
      have hl : ofBits cs < 18446744073709551616 := by
        have := ofBits_lt cs
        have h2 : 2 ^ cs.length ≤ 2 ^ 64 := Nat.pow_le_pow_right (by decide) hcs
        omega
      have HC := Lib.hid (tz_any (ofBits cs) hl w HT.out)
      rw [hz] at HC
      go_wp2_with (go_at_call 39; refine HC.out.mono ?_; rintro e w' ⟨rfl, rfl⟩)
      go_ret
      exact ⟨rfl, rfl⟩
end Go.Proofs.YtbdjpacmbaoaeaaDoor
