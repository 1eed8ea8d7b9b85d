/- The walks of made, a closure each. -/
import Derived.Test.YtakgnpmfnechhaaMapW
namespace Go.Proofs.Ytakgnpmfnechhaa
open Go.RowKit

/-- a row that is being filled with f: i places are -/
def fil (f : Nat → Int) (i : Nat) : Nat → Value := fun j => if j < i then .int .i64 (f j) else .int .i64 0
theorem fil_step {w : World} {b n : Nat} {f : Nat → Int} {i : Nat} (h : w.rowIs b 3 n (fil f i)) {x : Int} (hx : x = f i) : (w.setCell ⟨b, i, none⟩ (.int .i64 x)).rowIs b 3 n (fil f (i + 1)) := by
  subst hx
  refine World.rowIs.congr (World.rowIs.set h i _) fun j _ => ?_
  unfold fil
  by_cases e : j = i
  · subst e
    rw [if_pos rfl, if_pos (by omega)]
  · rw [if_neg e]
    by_cases e2 : j < i
    · rw [if_pos e2, if_pos (by omega)]
    · rw [if_neg e2, if_neg (by omega)]
theorem fil_made (w : World) (n : Nat) (f : Nat → Int) : (w.alloc (.cells (madeCells #[.int .i64 0] n) 3)).rowIs w.heap.size 3 n (fil f 0) :=
  World.rowIs.congr (World.rowIs_made w (.int .i64 0) n 3) fun j _ => by
    unfold fil
    rw [if_neg (by omega)]
/-- a row that is full is a list -/
theorem fil_list {w : World} {b n : Nat} {f : Nat → Int} (h : w.rowIs b 3 n (fil f n)) (hn : n ≤ 9223372036854775807) : SlI w (some ⟨b, 0, none⟩) n (mk n f) := by
  refine ⟨fun k hk => ?_, by rw [mk_len]; exact Nat.le_refl _, hn, fun h => by cases h⟩
  have hk' : k < n := by rwa [mk_len] at hk
  refine ⟨b, 0, rfl, World.rowIs.lt h, ?_⟩
  rw [Nat.zero_add, World.rowIs.cell h hk', mk_get]
  unfold fil
  rw [if_pos hk']
/-- what made has in memory -/
structure MdI (w wr : World) (n : Nat) (f : Nat → Int) (j : Nat) : Prop where
  room : Room wr w.heap.size
  row : wr.rowIs (w.heap.size + 1) 3 n (fil f j)
  u : Below w.heap.size w wr
  le : n ≤ 9223372036854775807
theorem mdI_start (w : World) (n : Nat) (f : Nat → Int) {hn : n ≤ 9223372036854775807} : MdI w ((w.alloc (.cells #[.int .i64 0, .slice none 0 0] 24)).alloc (.cells (madeCells #[.int .i64 0] n) 3)) n f 0 := by
  have h := fil_made (w.alloc (.cells #[.int .i64 0, .slice none 0 0] 24)) n f
  rw [show (w.alloc (.cells #[.int .i64 0, .slice none 0 0] 24)).heap.size = w.heap.size + 1 by simp] at h
  exact ⟨(Room.new w _ _).keep (below_new _ _), h, (below_new w _).alloc (by simp) _, hn⟩
theorem MdI.step {w wr : World} {n : Nat} {f : Nat → Int} {j : Nat} (h : MdI w wr n f j) : MdI w (wr.setCell ⟨w.heap.size + 1, j, none⟩ (.int .i64 (f j))) n f (j + 1) := by
  obtain ⟨u, v, hr⟩ := h.room
  exact ⟨⟨u, v, (Below.heap_setCell _ _ _ _ (by simp)).trans hr⟩, fil_step h.row rfl, h.u.setCell (by simp) _, h.le⟩
theorem mdI_fin {w wr : World} {n : Nat} {f : Nat → Int} (h : MdI w wr n f n) (o : Int) :
    MapX (o, mk n f) w (.returned (.agg #[.int .i64 o, .slice (some ⟨w.heap.size + 1, 0, none⟩) n n])) ((wr.setCell ⟨w.heap.size, 0, none⟩ (.int .i64 o)).setCell ⟨w.heap.size, 1, none⟩ (.slice (some ⟨w.heap.size + 1, 0, none⟩) n n)) := by
  refine ⟨some ⟨w.heap.size + 1, 0, none⟩, by simp only [mk_len], ?_, fun p e => ?_, below_set2 h.u (Nat.le_refl _)⟩
  · have := sl_set2 (fil_list h.row h.le) (g := w.heap.size) (u := .int .i64 o) (v := .slice (some ⟨w.heap.size + 1, 0, none⟩) n n) (fun p e => by injection e with e; subst e; simp)
    simpa only [mk_len] using this
  · injection e with e
    subst e
    simp
set_option maxRecDepth 100000 in
set_option maxHeartbeats 2000000 in
theorem made34 {w : World} (o : Int) (n : Nat) (f : Nat → Int) (c0 c1 : Value) (hn : n ≤ 4096) (hc : ∀ W, Below w.heap.size w W → ∀ k : Nat, k < n → Calls Try.prog 34 #[.int .i64 k, c0, c1] W (NumS (f k) W)) :
    Calls Try.prog 33 #[.int .i64 o, .int .i64 n, .func (.func 34) #[] #[c0, c1]] w (MapX (o, mk n f) w) := by
  have HC := Lib.hid hc
  have hmk := make_ints n n n n rfl rfl (Nat.le_refl _) (by omega)
  have H0 := Lib.hid (mdI_start (hn := by omega) w n f)
  clear hc
  go_enter Try.func33, Try.ntmps33
  go_wp2_with fail
  clear hmk
  go_loopw [13] (fun v wr => ∃ j : Nat, j ≤ n ∧ v = .int .i64 j ∧ Hid (MdI w wr n f j)) (fun v _ => n - (intOf v).toNat)
  case atStart => exact ⟨0, Nat.zero_le _, rfl, H0⟩
  case round =>
    obtain ⟨j, hj, rfl, HI⟩ := hrel
    clear H0
    by_cases hlt : j < n
    · have HJ := Lib.hid (HC.out _ HI.out.u j hlt)
      have hcell := World.rowIs.cell HI.out.row hlt
      have hfr := World.rowIs.frozen HI.out.row j
      generalize fil f j j = z at hcell
      have HN := Lib.hid HI.out.step
      go_wp2_with fail
      refine HJ.out.mono ?_
      clear HJ
      rintro e w' ⟨rfl, rfl⟩
      go_wp2_with fail
      go_roundw
      case rel => exact ⟨j + 1, by omega, by go_num, HN⟩
      case measure => first | (simp [intOf]; done) | (simp [intOf]; omega)
    · obtain rfl : j = n := by omega
      obtain ⟨u, v, c0, c1, f0, f1⟩ := HI.out.room.open_
      have HF := Lib.hid (mdI_fin HI.out o)
      clear HC
      go_wp2_with fail
      exact bodyPost_ret (res_map rfl (g := w.heap.size) rfl (heap_set2 HI.out.room)) rfl HF.out
/-- a map is handed back, whose row is known whole -/
def MapY (o : Int) (n : Nat) (f : Nat → Int) (w : World) (e : Ending) (w' : World) : Prop := ∃ gb, e = .returned (.agg #[.int .i64 o, .slice (some ⟨gb, 0, none⟩) n n]) ∧ w'.rowIs gb 3 n (fil f n) ∧ w.heap.size ≤ gb ∧ Below w.heap.size w w'
theorem mdI_finY {w wr : World} {n : Nat} {f : Nat → Int} (h : MdI w wr n f n) (o : Int) :
    MapY o n f w (.returned (.agg #[.int .i64 o, .slice (some ⟨w.heap.size + 1, 0, none⟩) n n])) ((wr.setCell ⟨w.heap.size, 0, none⟩ (.int .i64 o)).setCell ⟨w.heap.size, 1, none⟩ (.slice (some ⟨w.heap.size + 1, 0, none⟩) n n)) :=
  ⟨w.heap.size + 1, rfl, World.rowIs.setOther (World.rowIs.setOther h.row (by simp) _) (by simp) _, by omega, below_set2 h.u (Nat.le_refl _)⟩
set_option maxRecDepth 100000 in
set_option maxHeartbeats 2000000 in
theorem made35 {w : World} (o : Int) (n : Nat) (f : Nat → Int) (hn : n ≤ 4096) (hc : ∀ W, Below w.heap.size w W → ∀ k : Nat, k < n → Calls Try.prog 35 #[.int .i64 k] W (NumS (f k) W)) :
    Calls Try.prog 33 #[.int .i64 o, .int .i64 n, .func (.func 35) #[] #[]] w (MapY o n f w) := by
  have HC := Lib.hid hc
  have hmk := make_ints n n n n rfl rfl (Nat.le_refl _) (by omega)
  have H0 := Lib.hid (mdI_start (hn := by omega) w n f)
  clear hc
  go_enter Try.func33, Try.ntmps33
  go_wp2_with fail
  clear hmk
  go_loopw [13] (fun v wr => ∃ j : Nat, j ≤ n ∧ v = .int .i64 j ∧ Hid (MdI w wr n f j)) (fun v _ => n - (intOf v).toNat)
  case atStart => exact ⟨0, Nat.zero_le _, rfl, H0⟩
  case round =>
    obtain ⟨j, hj, rfl, HI⟩ := hrel
    clear H0
    by_cases hlt : j < n
    · have HJ := Lib.hid (HC.out _ HI.out.u j hlt)
      have hcell := World.rowIs.cell HI.out.row hlt
      have hfr := World.rowIs.frozen HI.out.row j
      generalize fil f j j = z at hcell
      have HN := Lib.hid HI.out.step
      go_wp2_with fail
      refine HJ.out.mono ?_
      clear HJ
      rintro e w' ⟨rfl, rfl⟩
      go_wp2_with fail
      go_roundw
      case rel => exact ⟨j + 1, by omega, by go_num, HN⟩
      case measure => first | (simp [intOf]; done) | (simp [intOf]; omega)
    · obtain rfl : j = n := by omega
      obtain ⟨u, v, c0, c1, f0, f1⟩ := HI.out.room.open_
      have HF := Lib.hid (mdI_finY HI.out o)
      clear HC
      go_wp2_with fail
      exact bodyPost_ret (res_map rfl (g := w.heap.size) rfl (heap_set2 HI.out.room)) rfl HF.out
set_option maxRecDepth 100000 in
set_option maxHeartbeats 2000000 in
theorem made39 {w : World} (o : Int) (n : Nat) (f : Nat → Int) (hn : n ≤ 4096) (hc : ∀ W, Below w.heap.size w W → ∀ k : Nat, k < n → Calls Try.prog 39 #[.int .i64 k] W (NumS (f k) W)) :
    Calls Try.prog 33 #[.int .i64 o, .int .i64 n, .func (.func 39) #[] #[]] w (MapX (o, mk n f) w) := by
  have HC := Lib.hid hc
  have hmk := make_ints n n n n rfl rfl (Nat.le_refl _) (by omega)
  have H0 := Lib.hid (mdI_start (hn := by omega) w n f)
  clear hc
  go_enter Try.func33, Try.ntmps33
  go_wp2_with fail
  clear hmk
  go_loopw [13] (fun v wr => ∃ j : Nat, j ≤ n ∧ v = .int .i64 j ∧ Hid (MdI w wr n f j)) (fun v _ => n - (intOf v).toNat)
  case atStart => exact ⟨0, Nat.zero_le _, rfl, H0⟩
  case round =>
    obtain ⟨j, hj, rfl, HI⟩ := hrel
    clear H0
    by_cases hlt : j < n
    · have HJ := Lib.hid (HC.out _ HI.out.u j hlt)
      have hcell := World.rowIs.cell HI.out.row hlt
      have hfr := World.rowIs.frozen HI.out.row j
      generalize fil f j j = z at hcell
      have HN := Lib.hid HI.out.step
      go_wp2_with fail
      refine HJ.out.mono ?_
      clear HJ
      rintro e w' ⟨rfl, rfl⟩
      go_wp2_with fail
      go_roundw
      case rel => exact ⟨j + 1, by omega, by go_num, HN⟩
      case measure => first | (simp [intOf]; done) | (simp [intOf]; omega)
    · obtain rfl : j = n := by omega
      obtain ⟨u, v, c0, c1, f0, f1⟩ := HI.out.room.open_
      have HF := Lib.hid (mdI_fin HI.out o)
      clear HC
      go_wp2_with fail
      exact bodyPost_ret (res_map rfl (g := w.heap.size) rfl (heap_set2 HI.out.room)) rfl HF.out
set_option maxRecDepth 100000 in
set_option maxHeartbeats 2000000 in
theorem made40 {w : World} (o : Int) (n : Nat) (f : Nat → Int) (c0 c1 : Value) (hn : n ≤ 4096) (hc : ∀ W, Below w.heap.size w W → ∀ k : Nat, k < n → Calls Try.prog 40 #[.int .i64 k, c0, c1] W (NumS (f k) W)) :
    Calls Try.prog 33 #[.int .i64 o, .int .i64 n, .func (.func 40) #[] #[c0, c1]] w (MapX (o, mk n f) w) := by
  have HC := Lib.hid hc
  have hmk := make_ints n n n n rfl rfl (Nat.le_refl _) (by omega)
  have H0 := Lib.hid (mdI_start (hn := by omega) w n f)
  clear hc
  go_enter Try.func33, Try.ntmps33
  go_wp2_with fail
  clear hmk
  go_loopw [13] (fun v wr => ∃ j : Nat, j ≤ n ∧ v = .int .i64 j ∧ Hid (MdI w wr n f j)) (fun v _ => n - (intOf v).toNat)
  case atStart => exact ⟨0, Nat.zero_le _, rfl, H0⟩
  case round =>
    obtain ⟨j, hj, rfl, HI⟩ := hrel
    clear H0
    by_cases hlt : j < n
    · have HJ := Lib.hid (HC.out _ HI.out.u j hlt)
      have hcell := World.rowIs.cell HI.out.row hlt
      have hfr := World.rowIs.frozen HI.out.row j
      generalize fil f j j = z at hcell
      have HN := Lib.hid HI.out.step
      go_wp2_with fail
      refine HJ.out.mono ?_
      clear HJ
      rintro e w' ⟨rfl, rfl⟩
      go_wp2_with fail
      go_roundw
      case rel => exact ⟨j + 1, by omega, by go_num, HN⟩
      case measure => first | (simp [intOf]; done) | (simp [intOf]; omega)
    · obtain rfl : j = n := by omega
      obtain ⟨u, v, c0, c1, f0, f1⟩ := HI.out.room.open_
      have HF := Lib.hid (mdI_fin HI.out o)
      clear HC
      go_wp2_with fail
      exact bodyPost_ret (res_map rfl (g := w.heap.size) rfl (heap_set2 HI.out.room)) rfl HF.out
set_option maxRecDepth 100000 in
set_option maxHeartbeats 2000000 in
theorem made44 {w : World} (o : Int) (n : Nat) (f : Nat → Int) (c0 c1 : Value) (hn : n ≤ 4096) (hc : ∀ W, Below w.heap.size w W → ∀ k : Nat, k < n → Calls Try.prog 44 #[.int .i64 k, c0, c1] W (NumS (f k) W)) :
    Calls Try.prog 33 #[.int .i64 o, .int .i64 n, .func (.func 44) #[] #[c0, c1]] w (MapX (o, mk n f) w) := by
  have HC := Lib.hid hc
  have hmk := make_ints n n n n rfl rfl (Nat.le_refl _) (by omega)
  have H0 := Lib.hid (mdI_start (hn := by omega) w n f)
  clear hc
  go_enter Try.func33, Try.ntmps33
  go_wp2_with fail
  clear hmk
  go_loopw [13] (fun v wr => ∃ j : Nat, j ≤ n ∧ v = .int .i64 j ∧ Hid (MdI w wr n f j)) (fun v _ => n - (intOf v).toNat)
  case atStart => exact ⟨0, Nat.zero_le _, rfl, H0⟩
  case round =>
    obtain ⟨j, hj, rfl, HI⟩ := hrel
    clear H0
    by_cases hlt : j < n
    · have HJ := Lib.hid (HC.out _ HI.out.u j hlt)
      have hcell := World.rowIs.cell HI.out.row hlt
      have hfr := World.rowIs.frozen HI.out.row j
      generalize fil f j j = z at hcell
      have HN := Lib.hid HI.out.step
      go_wp2_with fail
      refine HJ.out.mono ?_
      clear HJ
      rintro e w' ⟨rfl, rfl⟩
      go_wp2_with fail
      go_roundw
      case rel => exact ⟨j + 1, by omega, by go_num, HN⟩
      case measure => first | (simp [intOf]; done) | (simp [intOf]; omega)
    · obtain rfl : j = n := by omega
      obtain ⟨u, v, c0, c1, f0, f1⟩ := HI.out.room.open_
      have HF := Lib.hid (mdI_fin HI.out o)
      clear HC
      go_wp2_with fail
      exact bodyPost_ret (res_map rfl (g := w.heap.size) rfl (heap_set2 HI.out.room)) rfl HF.out
set_option maxRecDepth 100000 in
set_option maxHeartbeats 2000000 in
theorem made43 {w : World} (o : Int) (n : Nat) (f : Nat → Int) (c0 c1 c2 c3 : Value) (hn : n ≤ 4096) (hc : ∀ W, Below w.heap.size w W → ∀ k : Nat, k < n → Calls Try.prog 43 #[.int .i64 k, c0, c1, c2, c3] W (NumS (f k) W)) :
    Calls Try.prog 33 #[.int .i64 o, .int .i64 n, .func (.func 43) #[] #[c0, c1, c2, c3]] w (MapX (o, mk n f) w) := by
  have HC := Lib.hid hc
  have hmk := make_ints n n n n rfl rfl (Nat.le_refl _) (by omega)
  have H0 := Lib.hid (mdI_start (hn := by omega) w n f)
  clear hc
  go_enter Try.func33, Try.ntmps33
  go_wp2_with fail
  clear hmk
  go_loopw [13] (fun v wr => ∃ j : Nat, j ≤ n ∧ v = .int .i64 j ∧ Hid (MdI w wr n f j)) (fun v _ => n - (intOf v).toNat)
  case atStart => exact ⟨0, Nat.zero_le _, rfl, H0⟩
  case round =>
    obtain ⟨j, hj, rfl, HI⟩ := hrel
    clear H0
    by_cases hlt : j < n
    · have HJ := Lib.hid (HC.out _ HI.out.u j hlt)
      have hcell := World.rowIs.cell HI.out.row hlt
      have hfr := World.rowIs.frozen HI.out.row j
      generalize fil f j j = z at hcell
      have HN := Lib.hid HI.out.step
      go_wp2_with fail
      refine HJ.out.mono ?_
      clear HJ
      rintro e w' ⟨rfl, rfl⟩
      go_wp2_with fail
      go_roundw
      case rel => exact ⟨j + 1, by omega, by go_num, HN⟩
      case measure => first | (simp [intOf]; done) | (simp [intOf]; omega)
    · obtain rfl : j = n := by omega
      obtain ⟨u, v, c0, c1, f0, f1⟩ := HI.out.room.open_
      have HF := Lib.hid (mdI_fin HI.out o)
      clear HC
      go_wp2_with fail
      exact bodyPost_ret (res_map rfl (g := w.heap.size) rfl (heap_set2 HI.out.room)) rfl HF.out
end Go.Proofs.Ytakgnpmfnechhaa
