/- The walks of Remove, Move, New and Copy. -/
import Derived.Test.YtbdjpacmbaoaeaaDoorInsW
namespace Go.Proofs.YtbdjpacmbaoaeaaDoor
open Go.RowKit

theorem rem_nil (x y : Int) (w : World) : Calls Tryd.prog 24 #[.pointer none, .int .i64 x, .int .i64 y] w fun e w' => e = .returned (.int .i64 2) ∧ w = w' := by
  go_enter Tryd.func24, Tryd.ntmps24
  go_wp2_with (go_at_call 34; refine (part_nil _ _ _).mono ?_; rintro e w' ⟨rfl, rfl⟩)
  go_ret
  exact ⟨rfl, rfl⟩
theorem rem_out {w : World} {b n : Nat} {ws : List Nat} (h : Raw w b n ws) (x y : Int) (h1 : x ≤ 9223372036854775807) (ho : x < 0 ∨ y < 0 ∨ (n : Int) - x < y) : Calls Tryd.prog 24 #[.pointer (some ⟨b, 0, none⟩), .int .i64 x, .int .i64 y] w fun e w' => e = .returned (.int .i64 4) ∧ w = w' := by
  have hp := part_any h x y h1
  rw [show partErr n x y = 4 by unfold partErr; rw [if_pos (by omega)]] at hp
  clear h
  go_enter Tryd.func24, Tryd.ntmps24
  go_wp2_with (go_at_call 34; refine hp.mono ?_; rintro e w' ⟨rfl, rfl⟩)
  go_ret
  exact ⟨rfl, rfl⟩
set_option maxHeartbeats 1000000 in
theorem rem_in {w : World} {b : Nat} {l : List Bool} (h : Fl w b l) (a n : Nat) (han : a + n ≤ l.length) : Calls Tryd.prog 24 #[.pointer (some ⟨b, 0, none⟩), .int .i64 a, .int .i64 n] w (Ch w b (l.take a ++ l.drop (a + n))) := by
  have hp := part_any h a n (by have := h.le; omega)
  rw [show partErr l.length a n = 0 by unfold partErr; rw [if_neg (by omega)]] at hp
  have KW := Lib.hid (without_any h a n han)
  have LF : Hid ((l.take a ++ l.drop (a + n)).length ≤ 4096) := Lib.hid (by have := h.le; simp; omega)
  have HFb := Lib.hid h
  clear h
  generalize l.take a ++ l.drop (a + n) = x at *
  go_enter Tryd.func24, Tryd.ntmps24
  go_wp2_with (go_at_call 34; refine hp.mono ?_; rintro e w' ⟨rfl, rfl⟩)
  refine KW.out.mono ?_
  rintro q W2 ⟨rfl, k2⟩
  have HK2 := Lib.hid k2
  clear k2
  have HR2 : Hid (Fl W2 b l) := Lib.hid (fl_below HK2.out HFb.out.lt_size HFb.out)
  go_wp2_with (first | (refine wp_store64 rfl (.tmp 20) (.tmp 19) rfl b rfl (fl x) rfl x.length (words x) rfl (words_len _) _ HR2.out.box (fcells_size _ (words_len _)) ?_))
  intro w3 H3 F3
  go_wp2_with fail
  go_ret
  exact ⟨rfl, ⟨H3.out, words_len _, words_lt _, LF.out⟩, Fr.of_sk HK2.out F3.out⟩

theorem mv_nil (x y z : Int) (w : World) : Calls Tryd.prog 26 #[.pointer none, .int .i64 x, .int .i64 y, .int .i64 z] w fun e w' => e = .returned (.int .i64 2) ∧ w = w' := by
  go_enter Tryd.func26, Tryd.ntmps26
  go_wp2_with (go_at_call 34; refine (part_nil _ _ _).mono ?_; rintro e w' ⟨rfl, rfl⟩)
  go_ret
  exact ⟨rfl, rfl⟩
theorem mv_out {w : World} {b n : Nat} {ws : List Nat} (h : Raw w b n ws) (x y z : Int) (h1 : x ≤ 9223372036854775807) (ho : x < 0 ∨ y < 0 ∨ (n : Int) - x < y) : Calls Tryd.prog 26 #[.pointer (some ⟨b, 0, none⟩), .int .i64 x, .int .i64 y, .int .i64 z] w fun e w' => e = .returned (.int .i64 4) ∧ w = w' := by
  have hp := part_any h x y h1
  rw [show partErr n x y = 4 by unfold partErr; rw [if_pos (by omega)]] at hp
  clear h
  go_enter Tryd.func26, Tryd.ntmps26
  go_wp2_with (go_at_call 34; refine hp.mono ?_; rintro e w' ⟨rfl, rfl⟩)
  go_ret
  exact ⟨rfl, rfl⟩
theorem mv_far {w : World} {b n : Nat} {ws : List Nat} (h : Raw w b n ws) (x y z : Int) (ho : 0 ≤ x ∧ 0 ≤ y ∧ y ≤ (n : Int) - x) (hz : z < 0 ∨ (n : Int) - y < z) : Calls Tryd.prog 26 #[.pointer (some ⟨b, 0, none⟩), .int .i64 x, .int .i64 y, .int .i64 z] w fun e w' => e = .returned (.int .i64 4) ∧ w = w' := by
  have hp := part_any h x y (by have := h.le; omega)
  rw [show partErr n x y = 0 by unfold partErr; rw [if_neg (by omega)]] at hp
  have hc := h.size
  have hn := h.le
  clear h
  rcases hz with hz | hz
  · go_enter Tryd.func26, Tryd.ntmps26
    go_wp2_with (go_at_call 34; refine hp.mono ?_; rintro e w' ⟨rfl, rfl⟩)
    go_ret
    exact ⟨rfl, rfl⟩
  · by_cases hz0 : z < 0
    · go_enter Tryd.func26, Tryd.ntmps26
      go_wp2_with (go_at_call 34; refine hp.mono ?_; rintro e w' ⟨rfl, rfl⟩)
      go_ret
      exact ⟨rfl, rfl⟩
    · go_enter Tryd.func26, Tryd.ntmps26
      go_wp2_with (go_at_call 34; refine hp.mono ?_; rintro e w' ⟨rfl, rfl⟩)
      go_ret
      exact ⟨rfl, rfl⟩
/-- what a move makes of a list -/
def mvd (l : List Bool) (a n t : Nat) : List Bool := (l.take a ++ l.drop (a + n)).take t ++ ((l.drop a).take n ++ (l.take a ++ l.drop (a + n)).drop t)
set_option maxHeartbeats 2000000 in
theorem mv_in {w : World} {b : Nat} {l : List Bool} (h : Fl w b l) (a n t : Nat) (han : a + n ≤ l.length) (ht : t ≤ l.length - n) : Calls Tryd.prog 26 #[.pointer (some ⟨b, 0, none⟩), .int .i64 a, .int .i64 n, .int .i64 t] w (Ch w b (mvd l a n t)) := by
  have hp := part_any h a n (by have := h.le; omega)
  rw [show partErr l.length a n = 0 by unfold partErr; rw [if_neg (by omega)]] at hp
  have KW := Lib.hid (without_any h a n han)
  have hc0 := h.size
  have hle := h.le
  have HFb0 := Lib.hid h
  obtain ⟨rest, hrest⟩ : ∃ rest, rest = l.take a ++ l.drop (a + n) := ⟨_, rfl⟩
  have hrl : rest.length = l.length - n := by rw [hrest]; simp; omega
  have LF : Hid ((rest.take t ++ ((l.drop a).take n ++ rest.drop t)).length ≤ 4096) := Lib.hid (by simp [hrl]; omega)
  have EM : Hid (mvd l a n t = rest.take t ++ ((l.drop a).take n ++ rest.drop t)) := Lib.hid (by rw [hrest]; rfl)
  rw [← hrest] at KW
  obtain ⟨Z, hZ, hZs, hZn, hz⟩ := zero64'
  obtain ⟨m, hm⟩ : ∃ m, m = l.length - n := ⟨_, rfl⟩
  have am : (l.length : Int) - (n : Int) = (m : Int) := by omega
  have EL : Hid (rest.length = m) := Lib.hid (by omega)
  have htm : t ≤ m := by omega
  have HN := Lib.hid han
  clear h hrest hrl hm
  go_enter Tryd.func26, Tryd.ntmps26
  go_wp2_with (go_at_call 34; refine hp.mono ?_; rintro e w' ⟨rfl, rfl⟩)
  refine KW.out.mono ?_
  rintro q W1 ⟨rfl, k1⟩
  have HK1 := Lib.hid k1
  clear k1
  have HG : Hid ((W1.alloc (.cells Z 64)).heap[W1.heap.size]? = some (.cells Z 64 (0, 0))) := Lib.hid (heap_alloc_new _ _)
  go_wp2_with (first | (refine wp_store64 rfl (.tmp 10) (.tmp 33) rfl W1.heap.size rfl (fl rest) rfl rest.length (words rest) rfl (words_len _) Z HG.out hZs.out ?_))
  intro W0 H0 F0
  have HK0 : Hid (Sk w W0) := Lib.hid (sk_next HK1.out (((Below.refl _ W1).alloc (Nat.le_refl _) _).trans (F0.out.below (Nat.le_refl _) (by simp))))
  obtain ⟨M, hM⟩ : ∃ M, M = W1.heap.size := ⟨_, rfl⟩
  rw [← hM]
  have HFr : Hid (Fl W0 M rest) := Lib.hid ⟨by rw [hM]; exact H0.out, words_len _, words_lt _, by have := EL.out; omega⟩
  have HFb : Hid (Fl W0 b l) := Lib.hid (fl_below HK0.out HFb0.out.lt_size HFb0.out)
  obtain ⟨d, hd⟩ : ∃ d, d = m - t := ⟨_, rfl⟩
  have ad : (m : Int) - (t : Int) = (d : Int) := by omega
  have wd : IntKind.i64.wrap (d : Int) = (d : Int) := by rw [IntKind.wrap_i64]; omega
  have Q1 := Lib.hid (part_sk HFr.out 0 t (by have := EL.out; omega) (rest.take t) (by rw [List.drop_zero]))
  have Q2 := Lib.hid (part_sk HFb.out a n HN.out ((l.drop a).take n) rfl)
  have Q3 := Lib.hid (part_sk HFr.out t d (by have := EL.out; omega) (rest.drop t) (by rw [List.take_of_length_le (by rw [List.length_drop]; have := EL.out; omega)]))
  have HC : Hid (∀ W, Sk W0 W → W.cell? ⟨M, 0, none⟩ = some (.int .i64 (m : Int))) := Lib.hid (fun W hW => by have := (fl_below hW HFr.out.lt_size HFr.out).size; rw [EL.out] at this; exact this)
  clear hM hd hz hZn H0 F0 HG hc0
  generalize rest.take t = x at *
  generalize hy : (l.drop a).take n = y at *
  generalize rest.drop t = z at *
  clear hy
  go_wp2_with fail
  refine wp_region_any (by kernel_rfl) ?_
  change wpAny Tryd.prog .any _ _ (16 + 1) _ _ _
  refine any_take 0 (v := .pointer (some ⟨b, 0, none⟩)) rfl (by kernel_rfl) (by kernel_rfl) (by kernel_rfl) (fun _ _ _ h => h) (Or.inl ⟨rfl, fun W _ => by go_simp⟩) ?_
  simp only [Act.put, List.getElem_toArray, List.getElem_cons_zero, List.setIfInBounds_toArray, List.set_cons_zero, List.set_cons_succ]
  refine any_quiet_tail 13 [1, 2, 3, 4, 5, 6, 7, 8, 9, 10, 11, 12] [13, 14, 15, 16] (Sk W0) (by kernel_rfl) (sk_drew W0) ?_
  simp only [pick, List.filterMap_cons, List.filterMap_nil, List.getElem?_toArray, List.getElem?_cons_zero, List.getElem?_cons_succ]
  refine quiet_val (.int .i64 t) rfl (fun W hW => by go_simp) ?_
  simp only [Act.put, List.setIfInBounds_toArray, List.set_cons_zero, List.set_cons_succ]
  refine quiet_call (.agg (fl x)) 41 #[.pointer (some ⟨M, 0, none⟩), .int .i64 0, .int .i64 t] rfl (fun W hW => by go_simp) (Q1.out) ?_
  simp only [Act.put, List.setIfInBounds_toArray, List.set_cons_zero, List.set_cons_succ]
  refine quiet_val (.pointer (some ⟨b, 0, none⟩)) rfl (fun W hW => by go_simp) ?_
  simp only [Act.put, List.setIfInBounds_toArray, List.set_cons_zero, List.set_cons_succ]
  refine quiet_val (.int .i64 a) rfl (fun W hW => by go_simp) ?_
  simp only [Act.put, List.setIfInBounds_toArray, List.set_cons_zero, List.set_cons_succ]
  refine quiet_val (.int .i64 n) rfl (fun W hW => by go_simp) ?_
  simp only [Act.put, List.setIfInBounds_toArray, List.set_cons_zero, List.set_cons_succ]
  refine quiet_call (.agg (fl y)) 41 #[.pointer (some ⟨b, 0, none⟩), .int .i64 a, .int .i64 n] rfl (fun W hW => by go_simp) (Q2.out) ?_
  simp only [Act.put, List.setIfInBounds_toArray, List.set_cons_zero, List.set_cons_succ]
  refine quiet_val (.int .i64 t) rfl (fun W hW => by go_simp) ?_
  simp only [Act.put, List.setIfInBounds_toArray, List.set_cons_zero, List.set_cons_succ]
  refine quiet_val (.pointer (some ⟨M, 0, none⟩)) rfl (fun W hW => by go_simp) ?_
  simp only [Act.put, List.setIfInBounds_toArray, List.set_cons_zero, List.set_cons_succ]
  refine quiet_val (.int .i64 m) rfl (fun W hW => by have c0 := HC.out W hW; go_simp) ?_
  simp only [Act.put, List.setIfInBounds_toArray, List.set_cons_zero, List.set_cons_succ]
  refine quiet_val (.int .i64 t) rfl (fun W hW => by go_simp) ?_
  simp only [Act.put, List.setIfInBounds_toArray, List.set_cons_zero, List.set_cons_succ]
  refine quiet_val (.int .i64 d) rfl (fun W hW => by go_simp) ?_
  simp only [Act.put, List.setIfInBounds_toArray, List.set_cons_zero, List.set_cons_succ]
  refine quiet_call (.agg (fl z)) 41 #[.pointer (some ⟨M, 0, none⟩), .int .i64 t, .int .i64 d] rfl (fun W hW => by go_simp) (Q3.out) ?_
  simp only [Act.put, List.setIfInBounds_toArray, List.set_cons_zero, List.set_cons_succ]
  refine wpQuiet_nil ?_
  intro W hW
  have HW := Lib.hid hW
  clear hW
  obtain ⟨D, hD⟩ : ∃ D, W.heap.size = D := ⟨_, rfl⟩
  refine wp_build3 rfl (.tmp 36) (.tmp 40) (.tmp 46) rfl x y z rfl rfl rfl D hD ?_
  intro W1 HL1 HB1 HS1
  simp only [Act.put, List.setIfInBounds_toArray, List.set_cons_zero, List.set_cons_succ]
  have HD := Lib.hid hD
  clear hD
  have J : Hid (Calls Tryd.prog 40 #[.slice (some ⟨D, 0, none⟩) 3 3] W1 (Gv W1 (x ++ (y ++ z)))) := Lib.hid (by
    have := join_any D [x, y, z] W1 HL1.out (by rw [HS1.out]; omega) (by have := LF.out; simp at this ⊢; omega) (by simp)
    simpa using this)
  have HK1 : Hid (Sk W0 W1) := Lib.hid (sk_next HW.out (by rw [HD.out]; exact HB1.out))
  refine wpList_plain rfl (fun K hK => ?_)
  go_simp
  refine J.out.mono ?_
  rintro q W2 ⟨rfl, k2⟩
  refine hK _ _ ?_
  have HK2 : Hid (Sk W0 W2) := Lib.hid (sk_next HK1.out k2)
  have HR2 : Hid (Fl W2 b l) := Lib.hid (fl_below HK2.out HFb.out.lt_size HFb.out)
  clear k2
  refine wpList_plain rfl (fun K hK => ?_)
  go_simp
  refine hK _ _ ?_
  refine wp_store64 rfl (.tmp 49) (.tmp 48) rfl b rfl (fl (x ++ (y ++ z))) rfl (x ++ (y ++ z)).length (words (x ++ (y ++ z))) rfl (words_len _) _ HR2.out.box (fcells_size _ (words_len _)) ?_
  intro w3 H3 F3
  go_wp2_with fail
  go_ret
  rw [EM.out]
  exact ⟨rfl, ⟨H3.out, words_len _, words_lt _, LF.out⟩, Fr.of_sk HK0.out (Fr.of_sk HK2.out F3.out)⟩
theorem copy_nil (w : World) : Calls Tryd.prog 20 #[.pointer none] w fun e w' => e = .returned (.pointer none) ∧ w = w' := by
  go_enter Tryd.func20, Tryd.ntmps20
  go_wp2
  go_ret
  exact ⟨rfl, rfl⟩
/-- a new list of bits -/
def Nw (w : World) (l : List Bool) (b : Nat) (w' : World) : Prop := Fl w' b l ∧ w.heap.size ≤ b ∧ Below w.heap.size w w'
set_option maxHeartbeats 1000000 in
theorem copy_any {w : World} {b : Nat} {l : List Bool} (h : Fl w b l) : Calls Tryd.prog 20 #[.pointer (some ⟨b, 0, none⟩)] w fun e w' => ∃ c, e = .returned (.pointer (some ⟨c, 0, none⟩)) ∧ Nw w l c w' := by
  have H := Lib.hid h
  obtain ⟨Z, hZ, hZs, hZn, hz⟩ := zero64'
  have HG : Hid ((w.alloc (.cells Z 64)).heap[w.heap.size]? = some (.cells Z 64 (0, 0))) := Lib.hid (heap_alloc_new _ _)
  clear h
  go_enter Tryd.func20, Tryd.ntmps20
  go_wp2_with (first | (refine wp_load64 rfl (.tmp 7) rfl b rfl _ H.out.box (fcells_size _ (words_len _)) ?_) | (refine wp_store64 rfl (.tmp 3) (.tmp 8) rfl w.heap.size rfl _ rfl l.length (words l) rfl (words_len _) Z HG.out hZs.out ?_))
  intro w3 H3 F3
  go_wp2_with fail
  go_ret
  exact ⟨w.heap.size, rfl, ⟨H3.out, words_len _, words_lt _, H.out.le⟩, Nat.le_refl _, ((Below.refl _ w).alloc (Nat.le_refl _) _).trans (F3.out.below (Nat.le_refl _) (by simp))⟩
theorem new_fresh (w : World) (Z : Array Value) (hZ : Z = (fcells 0 zs).toArray) : Fl (w.alloc (.cells Z 64)) w.heap.size [] :=
  ⟨by rw [hZ, zs_words]; exact heap_alloc_new _ _, words_len _, words_lt _, by simp⟩
set_option maxHeartbeats 1000000 in
theorem new_ok (n : Nat) (hn : n ≤ 4096) (w : World) : Calls Tryd.prog 32 #[.int .i64 n] w fun e w' => ∃ c, e = .returned (.tuple #[.pointer (some ⟨c, 0, none⟩), .int .i64 0]) ∧ Nw w (List.replicate n false) c w' := by
  obtain ⟨Z, hZ, hZs, hZn, hz⟩ := zero64'
  have K := Lib.hid (ins_in (new_fresh w Z hZ.out) 0 n false (by simp) (by simpa using hn))
  have e : (([] : List Bool).take 0 ++ (List.replicate n false ++ ([] : List Bool).drop 0)) = List.replicate n false := by simp
  rw [e] at K
  clear e
  go_enter Tryd.func32, Tryd.ntmps32
  go_wp2_with fail
  refine K.out.mono ?_
  rintro q W1 ⟨rfl, h1, h2⟩
  have H1 := Lib.hid h1
  have H2 := Lib.hid h2
  clear h1 h2
  go_wp2_with fail
  go_ret2
  exact ⟨w.heap.size, rfl, H1.out, Nat.le_refl _, ((Below.refl _ w).alloc (Nat.le_refl _) _).trans (H2.out.below (Nat.le_refl _) (by simp))⟩
set_option maxHeartbeats 1000000 in
theorem new_bad (x : Int) (c : Int) (hx : (x < 0 ∧ c = 4) ∨ (4096 < x ∧ c = 3)) (hx2 : x ≤ 9223372036854775807) (w : World) : Calls Tryd.prog 32 #[.int .i64 x] w fun e w' => e = .returned (.tuple #[.pointer none, .int .i64 c]) ∧ Below w.heap.size w w' := by
  obtain ⟨Z, hZ, hZs, hZn, hz⟩ := zero64'
  have K : Hid (Calls Tryd.prog 22 #[.pointer (some ⟨w.heap.size, 0, none⟩), .int .i64 0, .int .i64 x, .bool false] (w.alloc (.cells Z 64)) fun e w' => e = .returned (.int .i64 c) ∧ w.alloc (.cells Z 64) = w') := Lib.hid (by
    rcases hx with ⟨h, rfl⟩ | ⟨h, rfl⟩
    · exact ins_neg (new_fresh w Z hZ.out) 0 x false (by simp) h
    · exact ins_limit (new_fresh w Z hZ.out) 0 x false (by simp) (by simpa using h) hx2)
  have hc1 : (c == 0) = false := by rcases hx with ⟨_, rfl⟩ | ⟨_, rfl⟩ <;> rfl
  have hc2 : (c != 0) = true := by rcases hx with ⟨_, rfl⟩ | ⟨_, rfl⟩ <;> rfl
  clear hx hx2
  go_enter Tryd.func32, Tryd.ntmps32
  go_wp2_with fail
  refine K.out.mono ?_
  rintro q W1 ⟨rfl, rfl⟩
  go_wp2_with fail
  go_ret2
  exact ⟨rfl, (Below.refl _ w).alloc (Nat.le_refl _) _⟩
end Go.Proofs.YtbdjpacmbaoaeaaDoor
