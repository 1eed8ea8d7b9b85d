/- The walks of Insert, Remove, Move, New and Copy. -/
import Derived.Test.YtbdjpacmbaoaeaaDoorWithW
namespace Go.Proofs.YtbdjpacmbaoaeaaDoor
open Go.RowKit

theorem Fr.of_sk {w W w3 : World} {b : Nat} (h : Sk w W) (k : Fr W w3 b) : Fr w w3 b :=
  ⟨k.os.trans h.os, k.tape.trans h.tape, k.output.trans h.output, Nat.le_trans h.size k.size, fun i hi hb => (k.block i (Nat.lt_of_lt_of_le hi h.size) hb).trans (h.block i hi)⟩
theorem ins_nil (x y : Int) (v : Bool) (w : World) : Calls Tryd.prog 22 #[.pointer none, .int .i64 x, .int .i64 y, .bool v] w fun e w' => e = .returned (.int .i64 2) ∧ w = w' := by
  go_enter Tryd.func22, Tryd.ntmps22
  go_wp2_with (go_at_call 34; refine (part_nil _ _ _).mono ?_; rintro e w' ⟨rfl, rfl⟩)
  go_ret
  exact ⟨rfl, rfl⟩
theorem ins_out {w : World} {b n : Nat} {ws : List Nat} (h : Raw w b n ws) (x y : Int) (v : Bool) (h1 : x ≤ 9223372036854775807) (ho : x < 0 ∨ (n : Int) < x) : Calls Tryd.prog 22 #[.pointer (some ⟨b, 0, none⟩), .int .i64 x, .int .i64 y, .bool v] w fun e w' => e = .returned (.int .i64 4) ∧ w = w' := by
  have hp := part_any h x 0 h1
  rw [show partErr n x 0 = 4 by unfold partErr; rw [if_pos (by omega)]] at hp
  clear h
  go_enter Tryd.func22, Tryd.ntmps22
  go_wp2_with (go_at_call 34; refine hp.mono ?_; rintro e w' ⟨rfl, rfl⟩)
  go_ret
  exact ⟨rfl, rfl⟩
theorem ins_neg {w : World} {b n : Nat} {ws : List Nat} (h : Raw w b n ws) (x y : Int) (v : Bool) (hx : 0 ≤ x ∧ x ≤ n) (hy : y < 0) : Calls Tryd.prog 22 #[.pointer (some ⟨b, 0, none⟩), .int .i64 x, .int .i64 y, .bool v] w fun e w' => e = .returned (.int .i64 4) ∧ w = w' := by
  have hp := part_any h x 0 (by have := h.le; omega)
  rw [show partErr n x 0 = 0 by unfold partErr; rw [if_neg (by omega)]] at hp
  clear h
  go_enter Tryd.func22, Tryd.ntmps22
  go_wp2_with (go_at_call 34; refine hp.mono ?_; rintro e w' ⟨rfl, rfl⟩)
  go_ret
  exact ⟨rfl, rfl⟩
theorem ins_limit {w : World} {b n : Nat} {ws : List Nat} (h : Raw w b n ws) (x y : Int) (v : Bool) (hx : 0 ≤ x ∧ x ≤ n) (hy : 4096 - (n : Int) < y) (_hy2 : y ≤ 9223372036854775807) : Calls Tryd.prog 22 #[.pointer (some ⟨b, 0, none⟩), .int .i64 x, .int .i64 y, .bool v] w fun e w' => e = .returned (.int .i64 3) ∧ w = w' := by
  have hp := part_any h x 0 (by have := h.le; omega)
  rw [show partErr n x 0 = 0 by unfold partErr; rw [if_neg (by omega)]] at hp
  have hc := h.size
  have hn := h.le
  clear h
  go_enter Tryd.func22, Tryd.ntmps22
  go_wp2_with (go_at_call 34; refine hp.mono ?_; rintro e w' ⟨rfl, rfl⟩)
  go_ret
  exact ⟨rfl, rfl⟩
set_option maxHeartbeats 1000000 in
theorem ins_in {w : World} {b : Nat} {l : List Bool} (h : Fl w b l) (a n : Nat) (v : Bool) (ha : a ≤ l.length) (hn : l.length + n ≤ 4096) : Calls Tryd.prog 22 #[.pointer (some ⟨b, 0, none⟩), .int .i64 a, .int .i64 n, .bool v] w (Ch w b (l.take a ++ (List.replicate n v ++ l.drop a))) := by
  have hp := part_any h a 0 (by have := h.le; omega)
  rw [show partErr l.length a 0 = 0 by unfold partErr; rw [if_neg (by omega)]] at hp
  have hc0 := h.size
  obtain ⟨d, hd⟩ : ∃ d, d = l.length - a := ⟨_, rfl⟩
  have ad : (l.length : Int) - (a : Int) = (d : Int) := by omega
  have wd : IntKind.i64.wrap (d : Int) = (d : Int) := by rw [IntKind.wrap_i64]; omega
  have Q1 := Lib.hid (part_sk h 0 a (by omega) (l.take a) (by rw [List.drop_zero]))
  have Q2 := Lib.hid (part_sk h a d (by omega) (l.drop a) (by rw [List.take_of_length_le (by rw [List.length_drop]; omega)]))
  have Q3 : Hid (∀ W, Sk w W → Calls Tryd.prog 42 #[.int .i64 n, .bool v] W fun e W' => e = .returned (.agg (fl (List.replicate n v))) ∧ Sk w W') := Lib.hid (fun W hW => (filled_any n (by omega) v W).mono fun _ _ h => ⟨h.1, sk_next hW h.2⟩)
  have HC : Hid (∀ W, Sk w W → W.cell? ⟨b, 0, none⟩ = some (.int .i64 (l.length : Int))) := Lib.hid (fun W hW => (fl_below hW h.lt_size h).size)
  have LF : Hid ((l.take a ++ (List.replicate n v ++ l.drop a)).length ≤ 4096) := Lib.hid (by simp; omega)
  have HFb := Lib.hid h
  clear h hd
  generalize hx : l.take a = x at *
  generalize hy : List.replicate n v = y at *
  generalize hz : l.drop a = z at *
  clear hx hy hz
  go_enter Tryd.func22, Tryd.ntmps22
  go_wp2_with (go_at_call 34; refine hp.mono ?_; rintro e w' ⟨rfl, rfl⟩)
  refine wp_region_any (by kernel_rfl) ?_
  change wpAny Tryd.prog .any _ _ (19 + 1) _ _ _
  refine any_take 0 (v := .pointer (some ⟨b, 0, none⟩)) rfl (by kernel_rfl) (by kernel_rfl) (by kernel_rfl) (fun _ _ _ h => h) (Or.inl ⟨rfl, fun W _ => by go_simp⟩) ?_
  simp only [Act.put, List.getElem_toArray, List.getElem_cons_zero, List.setIfInBounds_toArray, List.set_cons_zero, List.set_cons_succ]
  refine any_quiet_tail 16 [1, 2, 3, 4, 5, 6, 7, 8, 9, 10, 11, 12, 13, 14, 15] [16, 17, 18, 19] (Sk w) (by kernel_rfl) (sk_drew w) ?_
  simp only [pick, List.filterMap_cons, List.filterMap_nil, List.getElem?_toArray, List.getElem?_cons_zero, List.getElem?_cons_succ]
  refine quiet_val (.pointer (some ⟨b, 0, none⟩)) rfl (fun W hW => by go_simp) ?_
  simp only [Act.put, List.setIfInBounds_toArray, List.set_cons_zero, List.set_cons_succ]
  refine quiet_val (.int .i64 a) rfl (fun W hW => by go_simp) ?_
  simp only [Act.put, List.setIfInBounds_toArray, List.set_cons_zero, List.set_cons_succ]
  refine quiet_call (.agg (fl x)) 41 #[.pointer (some ⟨b, 0, none⟩), .int .i64 0, .int .i64 a] rfl (fun W hW => by go_simp) (Q1.out) ?_
  simp only [Act.put, List.setIfInBounds_toArray, List.set_cons_zero, List.set_cons_succ]
  refine quiet_val (.int .i64 n) rfl (fun W hW => by go_simp) ?_
  simp only [Act.put, List.setIfInBounds_toArray, List.set_cons_zero, List.set_cons_succ]
  refine quiet_val (.bool v) rfl (fun W hW => by go_simp) ?_
  simp only [Act.put, List.setIfInBounds_toArray, List.set_cons_zero, List.set_cons_succ]
  refine quiet_call (.agg (fl y)) 42 #[.int .i64 n, .bool v] rfl (fun W hW => by go_simp) (Q3.out) ?_
  simp only [Act.put, List.setIfInBounds_toArray, List.set_cons_zero, List.set_cons_succ]
  refine quiet_val (.pointer (some ⟨b, 0, none⟩)) rfl (fun W hW => by go_simp) ?_
  simp only [Act.put, List.setIfInBounds_toArray, List.set_cons_zero, List.set_cons_succ]
  refine quiet_val (.int .i64 a) rfl (fun W hW => by go_simp) ?_
  simp only [Act.put, List.setIfInBounds_toArray, List.set_cons_zero, List.set_cons_succ]
  refine quiet_val (.pointer (some ⟨b, 0, none⟩)) rfl (fun W hW => by go_simp) ?_
  simp only [Act.put, List.setIfInBounds_toArray, List.set_cons_zero, List.set_cons_succ]
  refine quiet_val (.pointer (some ⟨b, 0, none⟩)) rfl (fun W hW => by go_simp) ?_
  simp only [Act.put, List.setIfInBounds_toArray, List.set_cons_zero, List.set_cons_succ]
  refine quiet_val (.pointer (some ⟨b, 0, none⟩)) rfl (fun W hW => by go_simp) ?_
  simp only [Act.put, List.setIfInBounds_toArray, List.set_cons_zero, List.set_cons_succ]
  refine quiet_val (.int .i64 (l.length : Int)) rfl (fun W hW => by have c0 := HC.out W hW; go_simp) ?_
  simp only [Act.put, List.setIfInBounds_toArray, List.set_cons_zero, List.set_cons_succ]
  refine quiet_val (.int .i64 a) rfl (fun W hW => by go_simp) ?_
  simp only [Act.put, List.setIfInBounds_toArray, List.set_cons_zero, List.set_cons_succ]
  refine quiet_val (.int .i64 d) rfl (fun W hW => by go_simp) ?_
  simp only [Act.put, List.setIfInBounds_toArray, List.set_cons_zero, List.set_cons_succ]
  refine quiet_call (.agg (fl z)) 41 #[.pointer (some ⟨b, 0, none⟩), .int .i64 a, .int .i64 d] rfl (fun W hW => by go_simp) (Q2.out) ?_
  simp only [Act.put, List.setIfInBounds_toArray, List.set_cons_zero, List.set_cons_succ]
  refine wpQuiet_nil ?_
  intro W hW
  have HW := Lib.hid hW
  clear hW
  obtain ⟨D, hD⟩ : ∃ D, W.heap.size = D := ⟨_, rfl⟩
  refine wp_build3 rfl (.tmp 30) (.tmp 33) (.tmp 42) rfl x y z rfl rfl rfl D hD ?_
  intro W1 HL1 HB1 HS1
  simp only [Act.put, List.setIfInBounds_toArray, List.set_cons_zero, List.set_cons_succ]
  have HD := Lib.hid hD
  clear hD
  have J : Hid (Calls Tryd.prog 40 #[.slice (some ⟨D, 0, none⟩) 3 3] W1 (Gv W1 (x ++ (y ++ z)))) := Lib.hid (by
    have := join_any D [x, y, z] W1 HL1.out (by rw [HS1.out]; omega) (by have := LF.out; simp at this ⊢; omega) (by simp)
    simpa using this)
  have HK1 : Hid (Sk w W1) := Lib.hid (sk_next HW.out (by rw [HD.out]; exact HB1.out))
  refine wpList_plain rfl (fun K hK => ?_)
  go_simp
  refine J.out.mono ?_
  rintro q W2 ⟨rfl, k2⟩
  refine hK _ _ ?_
  have HK2 : Hid (Sk w W2) := Lib.hid (sk_next HK1.out k2)
  have HR2 : Hid (Fl W2 b l) := Lib.hid (fl_below HK2.out HFb.out.lt_size HFb.out)
  clear k2
  refine wpList_plain rfl (fun K hK => ?_)
  go_simp
  refine hK _ _ ?_
  refine wp_store64 rfl (.tmp 45) (.tmp 44) rfl b rfl (fl (x ++ (y ++ z))) rfl (x ++ (y ++ z)).length (words (x ++ (y ++ z))) rfl (words_len _) _ HR2.out.box (fcells_size _ (words_len _)) ?_
  intro w3 H3 F3
  go_wp2_with fail
  go_ret
  exact ⟨rfl, ⟨H3.out, words_len _, words_lt _, LF.out⟩, Fr.of_sk HK2.out F3.out⟩
end Go.Proofs.YtbdjpacmbaoaeaaDoor
