/- The walks of slices.Collect and slices.Sorted, given the contract of slices.Sort. -/
import Derived.Sort.OwnSortedInts
import Derived.RangeFuncBound
import Derived.Test.YtbkfebnggomhdaaSeqW
namespace Go.Proofs.Ytbkfebnggomhdaa
open Go.RowKit Go.Shelf Go.Sort Go.Maps

/-- what slices.Sort does -/
def SortsOk : Prop :=
  (∀ (blk off cap : Nat) (zs : List Int) (W : World), Holds (Value.int .i64) W blk off zs.toArray → blk < W.heap.size → zs.length < 4611686018427387904 →
    Calls Try.prog 40 #[.slice (some ⟨blk, off, none⟩) zs.length cap] W fun e w' => e = .returned (.tuple #[]) ∧ ∃ k os, w' = grow (putRow (Value.int .i64) (Sort.ahead W k) blk off (zs.mergeSort fun x y => decide (x ≤ y)).toArray) os) ∧
  (∀ (p : Option Addr) (cap : Nat) (W : World), Calls Try.prog 40 #[.slice p 0 cap] W fun e w' => e = .returned (.tuple #[]) ∧ w' = W)

theorem rdI_of_own {w : World} {base n c : Nat} {A : Option Addr} {zs : List Int} (h : w.ownsRow base 3 1 (.slice A n c) n (zs.map (Value.int .i64))) (hn : zs.length = n) : RdI w w.heap.size A zs := fun k hk => by
  obtain ⟨g, cap, hv, hb, hl⟩ := h.form (by omega)
  simp only [Value.slice.injEq, true_and] at hv
  obtain ⟨rfl, rfl⟩ := hv
  refine ⟨g, 0, rfl, hl, ?_⟩
  rw [Nat.zero_add, h.cellAt k (by omega)]
  simp [hk]
set_option maxHeartbeats 1000000 in
theorem collect_any (Bs c : Nat) (A : Option Addr) (zs : List Int) (hreach : zs.length ≤ 1000000) (w : World) (hBs : Bs < w.heap.size)
    (hc : w.cell? ⟨Bs, 0, none⟩ = some (.slice A zs.length c)) (hI : RdI w w.heap.size A zs) :
    Calls Try.prog 39 #[.func (.func 41) #[] #[.pointer (some ⟨Bs, 0, none⟩)]] w fun e W' => ∃ v, e = .returned v ∧ W'.ownsRow w.heap.size 3 1 v zs.length (zs.map (Value.int .i64)) ∧ Below w.heap.size w W' := by
  have h44 := Lib.hid (callsIn_wide.1 (appendSeq_in Fence.wide 3 trivial trivial rfl (Nat.le_refl _) Bs c A zs hreach w hBs hc hI))
  clear hc
  go_enter Try.func39, Try.ntmps39
  go_wp2_with fail
  refine h44.out.mono ?_
  rintro e w1 ⟨v, rfl, ho, hb⟩
  go_wp2_with fail
  go_ret
  exact ⟨v, rfl, ho, hb⟩

set_option maxHeartbeats 1000000 in
theorem sorted_any (hS : SortsOk) (Bs c : Nat) (A : Option Addr) (zs : List Int) (hreach : zs.length ≤ 1000000) (w : World) (hBs : Bs < w.heap.size)
    (hc : w.cell? ⟨Bs, 0, none⟩ = some (.slice A zs.length c)) (hI : RdI w w.heap.size A zs) :
    Calls Try.prog 30 #[.func (.func 41) #[] #[.pointer (some ⟨Bs, 0, none⟩)]] w fun e W' => ∃ A' c', e = .returned (.slice A' zs.length c') ∧ zs.length ≤ c' ∧ RdI W' W'.heap.size A' (zs.mergeSort fun x y => decide (x ≤ y)) ∧ Below w.heap.size w W' := by
  have h39 := Lib.hid (collect_any Bs c A zs hreach w hBs hc hI)
  have HS := Lib.hid hS
  clear hc hS
  go_enter Try.func30, Try.ntmps30
  go_wp2_with fail
  refine h39.out.mono ?_
  rintro e w1 ⟨v, rfl, hrow, hb⟩
  rcases hrow.2 with ⟨rfl, hz⟩ | ⟨gb, cap, cur, rfl, hbase, hgb, r1, r2, r3, r4⟩
  · obtain rfl := List.eq_nil_of_length_eq_zero hz
    go_wp2_with fail
    refine (HS.out.2 none 0 _).mono ?_
    rintro e w2 ⟨rfl, rfl⟩
    go_wp2_with fail
    go_ret
    exact ⟨none, 0, rfl, Nat.le_refl _, by simpa using RdI.nil, hb⟩
  · have hH : Holds (Value.int .i64) w1 gb 0 zs.toArray := holds_of_blockI hgb (by simpa using r4)
    have hgl : gb < w1.heap.size := (Array.getElem?_eq_some_iff.1 hgb).1
    have c40 := Lib.hid (HS.out.1 gb 0 cap zs w1 hH hgl (by omega))
    have hgb' := Lib.hid hgb
    have r3' := Lib.hid r3
    clear hH hgb r4 r3
    go_wp2_with fail
    refine c40.out.mono ?_
    rintro e w2 ⟨rfl, nn, os, rfl⟩
    go_wp2_with fail
    go_ret
    refine ⟨_, _, rfl, r1, ?_, hb.grown (grownBy_sortedI _) hb.size (fun j hj => by cases hj; exact hbase)⟩
    exact rdI_of_own (ownsRow_sortedI (w := w1) (n := nn) (os := os) (ts := zs.mergeSort fun x y => decide (x ≤ y)) (by simp) hbase hgb'.out r1 r2 r3'.out) (by simp)
end Go.Proofs.Ytbkfebnggomhdaa
