/- The walk of FlagsNil: nil and the zero value. -/
import Derived.Test.YtbdjpacmbaoaeaaDoorLives
namespace Go.Proofs.YtbdjpacmbaoaeaaDoor
open Go.RowKit S

theorem zero_raw {w : World} {Z : Array Value} (hZ : Z = (fcells 0 zs).toArray) : Nw w [] w.heap.size (w.alloc (.cells Z 64)) := by
  refine ⟨⟨?_, words_len _, words_lt _, by decide⟩, Nat.le_refl _, (Below.refl _ _).alloc (Nat.le_refl _) _⟩
  rw [heap_alloc_new, hZ, zs_words]
  rfl
set_option maxRecDepth 100000 in
set_option maxHeartbeats 4000000 in
theorem nil_any (a b : Int) (w : World) (hT : Tab w) (h0 : 0 < w.heap.size) : Calls Tryd.prog 7 #[.int .i64 a, .int .i64 b] w fun e w' => e = .returned (.bool true) ∧ Below w.heap.size w w' := by
  have HT := Lib.hid hT
  obtain ⟨Z, hZ, hZs, hZn, hz⟩ := zero64'
  clear hT
  go_enter Tryd.func7, Tryd.ntmps7
  go_wp2_with fail
  refine (get_nil a _).mono ?_
  rintro e w' ⟨rfl, rfl⟩
  go_wp2_with fail
  refine (rank_nil a _).mono ?_
  rintro e w' ⟨rfl, rfl⟩
  go_wp2_with fail
  refine (sel_nil_ a _).mono ?_
  rintro e w' ⟨rfl, rfl⟩
  go_wp2_with fail
  refine (next_nil a true _).mono ?_
  rintro e w' ⟨rfl, rfl⟩
  go_wp2_with fail
  refine (set_nil a true _).mono ?_
  rintro e w' ⟨rfl, rfl⟩
  go_wp2_with fail
  refine (ins_nil a b true _).mono ?_
  rintro e w' ⟨rfl, rfl⟩
  go_wp2_with fail
  refine (rem_nil a b _).mono ?_
  rintro e w' ⟨rfl, rfl⟩
  go_wp2_with fail
  refine (mv_nil a b 0 _).mono ?_
  rintro e w' ⟨rfl, rfl⟩
  go_wp2_with fail
  refine (len_nil _).mono ?_
  rintro e w' ⟨rfl, rfl⟩
  go_wp2_with fail
  refine (count_nil _).mono ?_
  rintro e w' ⟨rfl, rfl⟩
  go_wp2_with fail
  refine (spans_nil _).mono ?_
  rintro e w' ⟨rfl, rfl⟩
  go_wp2_with fail
  refine (copy_nil _).mono ?_
  rintro e w' ⟨rfl, rfl⟩
  go_wp2_with fail
  have HN : Hid (Nw w [] w.heap.size (w.alloc (.cells Z 64))) := Lib.hid (zero_raw hZ.out)
  generalize w.alloc (.cells Z 64) = w1 at *
  have KG : Hid (Calls Tryd.prog 18 #[.pointer (some ⟨w.heap.size, 0, none⟩), .int .i64 0] w1 fun e w' => e = .returned (.tuple #[.bool false, .int .i64 4]) ∧ w1 = w') := Lib.hid (get_out HN.out.1 0 (by decide) (.inr (by decide)))
  have KR : Hid (Calls Tryd.prog 12 #[.pointer (some ⟨w.heap.size, 0, none⟩), .int .i64 0] w1 fun e w' => e = .returned (.tuple #[.int .i64 0, .int .i64 0]) ∧ ∃ k, w' = w1.drewN k) := Lib.hid (rank_in HN.out.1 0 (by decide))
  have KI : Hid (∀ k, Calls Tryd.prog 22 #[.pointer (some ⟨w.heap.size, 0, none⟩), .int .i64 0, .int .i64 3, .bool true] (w1.drewN k) (Ch (w1.drewN k) w.heap.size [true, true, true])) := Lib.hid fun k => ins_in (HN.out.drewN k).1 0 3 true (by decide) (by decide)
  refine KG.out.mono ?_
  rintro e w' ⟨rfl, rfl⟩
  go_wp2_with fail
  refine KR.out.mono ?_
  rintro e w' ⟨rfl, m1, rfl⟩
  go_wp2_with fail
  refine (KI.out _).mono ?_
  intro e w2 hc
  have HN2 := Lib.hid (Nw.ch (HN.out.drewN _) hc)
  obtain ⟨rfl, -⟩ := hc
  have KC : Hid (Calls Tryd.prog 15 #[.pointer (some ⟨w.heap.size, 0, none⟩)] w2 fun e w' => e = .returned (.int .i64 3) ∧ ∃ k, w' = w2.drewN k) := Lib.hid (count_any HN2.out.1)
  clear KG KR KI HN
  go_wp2_with fail
  refine KC.out.mono ?_
  rintro e w' ⟨rfl, m2, rfl⟩
  have KL : Hid (∀ k, Calls Tryd.prog 9 #[] (w2.drewN k) fun e w' => e = .returned (.bool true) ∧ Below (w2.drewN k).heap.size (w2.drewN k) w') := Lib.hid fun k => lives_any _ ((HN2.out.drewN k).tab HT.out h0) (Nat.lt_of_lt_of_le h0 (HN2.out.drewN k).2.2.size)
  go_wp2_with fail
  refine (KL.out _).mono ?_
  rintro e w3 ⟨rfl, hb⟩
  have HB3 := Lib.hid (Nw.below (HN2.out.drewN _) hb).2.2
  clear hb KL KC HN2
  go_wp2_with fail
  go_ret
  exact ⟨rfl, HB3.out⟩
end Go.Proofs.YtbdjpacmbaoaeaaDoor
