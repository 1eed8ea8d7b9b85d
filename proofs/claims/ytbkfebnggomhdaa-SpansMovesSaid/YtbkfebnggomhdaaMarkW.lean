/- The walk of the reference's Marks. -/
import Derived.Maps.AppendAt
import Derived.Test.YtbkfebnggomhdaaThree
import Derived.Test.YtbkfebnggomhdaaRefW
namespace Go.Proofs.Ytbkfebnggomhdaa
open Go.RowKit
/-- the marks of a list of spans, below a number -/
def mof (xs : List Sp) (n : Nat) : List Bool := (List.range n).map fun i : Nat => hasB xs i
theorem mof_len (xs : List Sp) (n : Nat) : (mof xs n).length = n := by simp [mof]
theorem mof_succ (xs : List Sp) (n : Nat) : mof xs (n + 1) = mof xs n ++ [hasB xs (n : Int)] := by simp [mof, List.range_succ]

set_option maxHeartbeats 2000000 in
theorem refMarks_any (A : Option Addr) (c : Nat) (xs : List Sp) (many : Nat) (w : World) (hr : Rd w w.heap.size A xs) (hl : xs.length ≤ 2000000000) (hm : many ≤ 1000000) :
    Calls Try.prog 24 #[.slice A xs.length c, .int .i64 many] w fun e w' => ∃ v, e = .returned v ∧ OwnB w' w.heap.size v (mof xs many) ∧ Below w.heap.size w w' := by
  obtain ⟨i0, hi0, hz0, hz1, hz2⟩ := info_parts Try.info4
  go_enter Try.func24, Try.ntmps24
  go_wp2
  go_loopw [5, 6] (fun v i wr => ∃ (k : Nat), k ≤ many ∧ i = .int .i64 k ∧ OwnB wr w.heap.size v (mof xs k) ∧ Below w.heap.size w wr) (fun _ i _ => many - (intOf i).toNat)
  case atStart => exact ⟨0, Nat.zero_le _, rfl, World.ownsRow_nil _ _ _ _, Below.refl _ _⟩
  case round =>
    obtain ⟨k, hk, rfl, hown, hb⟩ := hrel
    by_cases hlt : k < many
    · have hr1 := hr.below hb
      have hsz := hb.size
      have HS := Lib.hid (mof_succ xs k)
      have hln : (mof xs k).length ≤ 1000000 := by rw [mof_len]; omega
      have hltI : (k : Int) < (many : Int) := by omega
      unfold OwnB at hown
      go_wp2_with (first
        | (go_at_call 14
           refine (refHas_any A c xs (k : Int) wr (hr1.more hsz) (by omega)).mono ?_
           rintro e w1 ⟨rfl, hb1⟩
           have hown1 : w1.ownsRow w.heap.size 4 1 u5 (mof xs k).length (bl (mof xs k)) := hown.kept (only_of_below hb1 none) (by cases hv : u5.ownBlock <;> simp)
           have hb2 := hb.trans (hb1.mono hsz)
           have hsz2 := hb2.size)
        | (at_builtin
           refine wpList_append_lies _ rfl (.tmp 12) (.tmp 16) _ rfl w.heap.size 4 i0 (.bool false) 1 1 Try.underlying39 hi0 hz0 hz1 hz2 rfl (by omega) u5 (mof xs k).length (bl (mof xs k)) rfl (World.ownsRow.alloc hown1 _)
             ⟨w1.heap.size, 0, none⟩ 1 1 [.bool (hasB xs (k : Int))] rfl rfl (World.news_of_block (cs := #[.bool (hasB xs (k : Int))]) (t := 4) (fr := (0, 0)) (heap_alloc_new w1 _)) (by simp [Value.oneCell'])
             (by omega) (by simp [maxLen]; omega) (by omega) (by simp; omega) (w1.heap.size + 1) (by simp) ?_
           intro gg cap w2 hown2 hgrow hat hlt1
           have ho2 := OwnB.app hown2
           have hb3 : Below w.heap.size w w2 := (hb2.alloc hsz2 _).grown hgrow (by simp; omega) (fun j e => (hown1.lt j e).1)
           clear hown2 hgrow hat hlt1))
      go_roundw
      case rel => exact ⟨k + 1, by omega, by go_num, by rw [HS.out]; exact ho2, hb3⟩
      case measure => simp [intOf]; omega
    · have hkk : k = many := by omega
      subst hkk
      go_wp2_with fail
      go_ret
      exact ⟨_, rfl, hown, hb⟩
end Go.Proofs.Ytbkfebnggomhdaa
