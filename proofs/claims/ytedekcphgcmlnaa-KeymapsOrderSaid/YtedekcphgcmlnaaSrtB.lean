/- Sorting at most twelve numbers. -/
import Derived.Test.YtedekcphgcmlnaaSrtA
import Derived.Test.YtedekcphgcmlnaaLenS
namespace Go.Proofs.Ytedekcphgcmlnaa
open Go.RowKit Go.Sort

set_option maxRecDepth 100000 in
set_option maxHeartbeats 4000000 in
theorem pdq_small {w : World} {g n cap a b : Nat} {d : Array Int} (l : Int) (h : RA w g d) (hn : d.size = n) (hab : a ≤ b) (hb : b ≤ n) (hn2 : n ≤ 1000000) (h12 : b - a ≤ 12) :
    Calls Try.prog 31 #[.slice (some ⟨g, 0, none⟩) n cap, .int .i64 a, .int .i64 b, .int .i64 l] w (Srt w g n (insertionSort ltInt d a b)) := by
  have H34 := Lib.hid (insertion_any (cap := cap) h hn hab hb hn2)
  have z : ((b : Int) - (a : Int) ≤ 12) := by omega
  clear h
  go_enter Try.func31, Try.ntmps31
  go_wp2_with fail
  refine wp_loop_once ?_
  go_wp2_with fail
  refine H34.out.mono ?_
  rintro e w1 ⟨rfl, hs⟩
  have HS := Lib.hid hs
  clear hs
  go_wp2_with fail
  refine bodyPost_ret (results_none rfl _ _ _) rfl ?_
  exact ⟨rfl, HS.out⟩
theorem sorted_list {d d' : Array Int} (hp : PermIn 0 d.size d d') (hs : SortedIn ltInt 0 d.size d') : d'.toList.Perm d.toList ∧ d'.toList.Pairwise (· ≤ ·) := by
  obtain ⟨h1, _, h3⟩ := hp
  refine ⟨?_, ?_⟩
  · have e1 : (d'.extract 0 d.size).toList = d'.toList := by rw [← h1]; simp
    have e2 : (d.extract 0 d.size).toList = d.toList := by simp
    rwa [e1, e2] at h3
  · rw [List.pairwise_iff_getElem]
    intro i j hi hj hij
    have hi' : i < d'.size := by simpa using hi
    have hj' : j < d'.size := by simpa using hj
    have := hs i j (Nat.zero_le _) hij (by omega)
    rw [getElem!_pos d' i hi', getElem!_pos d' j hj'] at this
    unfold ltInt at this
    simp only [decide_eq_false_iff_not, Int.not_lt] at this
    simpa using this
theorem sort12 : SortU 12 := by
  intro w g zs hz hr
  have hn : zs.toArray.size = zs.length := by simp
  have hr' : RA w g zs.toArray := by unfold RA; simpa using hr
  have HL := Lib.hid (fun w => Try.bits_Len (zs.length : Int) w (by omega) (by omega))
  have hP := Lib.hid (fun l => pdq_small (cap := zs.length) l hr' hn (Nat.zero_le _) (Nat.le_refl _) (by omega) (show zs.length - 0 ≤ 12 by omega))
  have hI := insertionSort_holds (lt := ltInt) swo_ltInt zs.toArray 0 zs.length (Nat.zero_le _) (by simp)
  have HI := Lib.hid hI
  have hw : IntKind.u64.wrap (zs.length : Int) = zs.length := by rw [IntKind.wrap_u64]; omega
  clear hI hr hr'
  go_enter Try.func29, Try.ntmps29
  go_wp2_with fail
  refine (HL.out _).mono ?_
  rintro e w1 ⟨rfl, rfl⟩
  go_wp2_with fail
  refine (hP.out _).mono ?_
  rintro e w2 ⟨rfl, hs⟩
  have HS := Lib.hid hs
  clear hs
  go_wp2_with fail
  refine bodyPost_end (results_none rfl _ _ _) rfl ?_
  have hI := HI.out
  rw [← hn] at hI
  obtain ⟨q1, q2⟩ := sorted_list hI.1 hI.2
  rw [hn] at q1 q2
  exact ⟨rfl, ⟨_, HS.out.row, q1, q2⟩, HS.out.fr⟩
end Go.Proofs.Ytedekcphgcmlnaa
