/- The walk of without. -/
import Derived.Test.YtbdjpacmbaoaeaaDoorQTail
namespace Go.Proofs.YtbdjpacmbaoaeaaDoor
open Go.RowKit

theorem fl_below {w w' : World} {B b : Nat} {l : List Bool} (h : Below B w w') (hb : b < B) (k : Fl w b l) : Fl w' b l := k.heap (h.block b hb)
/-- the worlds of a region in which lists are made: all that was there is as it was -/
abbrev Sk (w W : World) : Prop := Below w.heap.size w W
theorem sk_next {w W W' : World} (h : Sk w W) (k : Below W.heap.size W W') : Sk w W' :=
  h.trans ⟨k.os, k.tape, k.output, k.size, fun i hi => k.block i (by have := h.size; omega)⟩
theorem sk_drew (w : World) : Sk w w.drew := ⟨rfl, rfl, rfl, Nat.le_refl _, fun _ _ => rfl⟩
/-- a call of part in such a world -/
theorem part_sk {w : World} {b : Nat} {l : List Bool} (h : Fl w b l) (a n : Nat) (han : a + n ≤ l.length) (x : List Bool) (hx : x = (l.drop a).take n) : ∀ W, Sk w W →
    Calls Tryd.prog 41 #[.pointer (some ⟨b, 0, none⟩), .int .i64 a, .int .i64 n] W fun e W' => e = .returned (.agg (fl x)) ∧ Sk w W' := fun W hW => by
  subst hx
  exact (part_in (fl_below hW h.lt_size h) a n han).mono fun _ _ h => ⟨h.1, sk_next hW h.2⟩
set_option maxHeartbeats 1000000 in
theorem without_any {w : World} {b : Nat} {l : List Bool} (h : Fl w b l) (a n : Nat) (han : a + n ≤ l.length) : Calls Tryd.prog 43 #[.pointer (some ⟨b, 0, none⟩), .int .i64 a, .int .i64 n] w (Gv w (l.take a ++ l.drop (a + n))) := by
  have hl := h.le
  have hlb := h.lt_size
  obtain ⟨Z, hZ, hZs, hZn, hz⟩ := zero64'
  have HB0 : Hid (Below w.heap.size w (w.alloc (.cells Z 64))) := Lib.hid ((Below.refl _ w).alloc (Nat.le_refl _) _)
  have HR0 : Hid ((w.alloc (.cells Z 64)).heap[w.heap.size]? = some (.cells Z 64 (0, 0))) := Lib.hid (heap_alloc_new _ _)
  have hsz0 : Hid (w.heap.size + 1 ≤ (w.alloc (.cells Z 64)).heap.size) := Lib.hid (by simp)
  obtain ⟨W0, HB, HR, hsz, hW0⟩ : ∃ W0 : World, Hid (Below w.heap.size w W0) ∧ Hid (W0.heap[w.heap.size]? = some (.cells Z 64 (0, 0))) ∧ Hid (w.heap.size + 1 ≤ W0.heap.size) ∧ w.alloc (.cells Z 64) = W0 := ⟨_, HB0, HR0, hsz0, rfl⟩
  obtain ⟨e, he⟩ : ∃ e, e = a + n := ⟨_, rfl⟩
  have ae : (a : Int) + (n : Int) = (e : Int) := by omega
  obtain ⟨d, hd⟩ : ∃ d, d = l.length - e := ⟨_, rfl⟩
  have ad : (l.length : Int) - (e : Int) = (d : Int) := by omega
  have wd : IntKind.i64.wrap (d : Int) = (d : Int) := by rw [IntKind.wrap_i64]; omega
  have h0 : Fl W0 b l := fl_below HB.out hlb h
  have Q1 := Lib.hid (part_sk h0 0 a (by omega) (l.take a) (by rw [List.drop_zero]))
  have Q2 := Lib.hid (part_sk h0 e d (by omega) (l.drop e) (by rw [List.take_of_length_le (by rw [List.length_drop]; omega)]))
  have HC : Hid (∀ W, Sk W0 W → W.cell? ⟨b, 0, none⟩ = some (.int .i64 (l.length : Int))) := Lib.hid (fun W hW => (fl_below hW h0.lt_size h0).size)
  have LF : Hid ((l.take a ++ l.drop e).length ≤ 4096) := Lib.hid (by simp; omega)
  rw [← he]
  clear h HB0 HR0 hsz0 hd han he h0
  generalize l.take a = x at *
  generalize l.drop e = y at *
  generalize l.length = N at *
  go_enter Tryd.func43, Tryd.ntmps43
  go_wp2_with fail
  refine region_quiet_tail 12 [0, 1, 2, 3, 4, 5, 6, 7, 8, 9, 10, 11] [12, 13, 14] (Sk W0) (by kernel_rfl) (by kernel_rfl) (by kernel_rfl) (sk_drew W0) ?_
  simp only [pick, List.filterMap_cons, List.filterMap_nil, List.getElem?_toArray, List.getElem?_cons_zero, List.getElem?_cons_succ]
  refine quiet_val (.pointer (some ⟨b, 0, none⟩)) rfl (fun W hW => by go_simp) ?_
  simp only [Act.put, List.setIfInBounds_toArray, List.set_cons_zero, List.set_cons_succ]
  refine quiet_val (.int .i64 a) rfl (fun W hW => by go_simp) ?_
  simp only [Act.put, List.setIfInBounds_toArray, List.set_cons_zero, List.set_cons_succ]
  refine quiet_call (.agg (fl x)) 41 #[.pointer (some ⟨b, 0, none⟩), .int .i64 0, .int .i64 a] rfl (fun W hW => by go_simp) (Q1.out) ?_
  simp only [Act.put, List.setIfInBounds_toArray, List.set_cons_zero, List.set_cons_succ]
  refine quiet_val (.pointer (some ⟨b, 0, none⟩)) rfl (fun W hW => by go_simp) ?_
  simp only [Act.put, List.setIfInBounds_toArray, List.set_cons_zero, List.set_cons_succ]
  refine quiet_val (.int .i64 e) rfl (fun W hW => by go_simp) ?_
  simp only [Act.put, List.setIfInBounds_toArray, List.set_cons_zero, List.set_cons_succ]
  refine quiet_val (.pointer (some ⟨b, 0, none⟩)) rfl (fun W hW => by go_simp) ?_
  simp only [Act.put, List.setIfInBounds_toArray, List.set_cons_zero, List.set_cons_succ]
  refine quiet_val (.pointer (some ⟨b, 0, none⟩)) rfl (fun W hW => by go_simp) ?_
  simp only [Act.put, List.setIfInBounds_toArray, List.set_cons_zero, List.set_cons_succ]
  refine quiet_val (.pointer (some ⟨b, 0, none⟩)) rfl (fun W hW => by go_simp) ?_
  simp only [Act.put, List.setIfInBounds_toArray, List.set_cons_zero, List.set_cons_succ]
  refine quiet_val (.int .i64 N) rfl (fun W hW => by have c0 := HC.out W hW; go_simp) ?_
  simp only [Act.put, List.setIfInBounds_toArray, List.set_cons_zero, List.set_cons_succ]
  refine quiet_val (.int .i64 e) rfl (fun W hW => by go_simp) ?_
  simp only [Act.put, List.setIfInBounds_toArray, List.set_cons_zero, List.set_cons_succ]
  refine quiet_val (.int .i64 d) rfl (fun W hW => by go_simp) ?_
  simp only [Act.put, List.setIfInBounds_toArray, List.set_cons_zero, List.set_cons_succ]
  refine quiet_call (.agg (fl y)) 41 #[.pointer (some ⟨b, 0, none⟩), .int .i64 e, .int .i64 d] rfl (fun W hW => by go_simp) (Q2.out) ?_
  simp only [Act.put, List.setIfInBounds_toArray, List.set_cons_zero, List.set_cons_succ]
  refine wpQuiet_nil ?_
  intro W hW
  have HW := Lib.hid hW
  clear hW
  obtain ⟨D, hD⟩ : ∃ D, W.heap.size = D := ⟨_, rfl⟩
  refine wp_build2 rfl (.tmp 13) (.tmp 22) rfl x y rfl rfl D hD ?_
  intro W1 HL1 HB1 HS1
  simp only [Act.put, List.setIfInBounds_toArray, List.set_cons_zero, List.set_cons_succ]
  have HD := Lib.hid hD
  clear hD
  have J : Hid (Calls Tryd.prog 40 #[.slice (some ⟨D, 0, none⟩) 2 2] W1 (Gv W1 (x ++ y))) := Lib.hid (by
    have := join_any D [x, y] W1 HL1.out (by rw [HS1.out]; omega) (by simpa using LF.out) (by simp)
    simpa using this)
  have HK1 : Hid (Sk W0 W1) := Lib.hid (sk_next HW.out (by rw [HD.out]; exact HB1.out))
  clear hz hZn hW0 Q1 Q2 HC
  refine wpList_plain rfl (fun K hK => ?_)
  go_simp
  refine J.out.mono ?_
  rintro q W2 ⟨rfl, k2⟩
  refine hK _ _ ?_
  have HK2 : Hid (Sk W0 W2) := Lib.hid (sk_next HK1.out k2)
  have HR2 : Hid (W2.heap[w.heap.size]? = some (.cells Z 64 (0, 0))) := Lib.hid ((HK2.out.block _ hsz.out).trans HR.out)
  clear k2
  refine wp_store64 rfl (.tmp 6) (.tmp 24) rfl w.heap.size rfl (fl (x ++ y)) rfl (x ++ y).length (words (x ++ y)) rfl (words_len _) Z HR2.out hZs.out ?_
  intro w3 H3 F3
  go_wp2_with fail
  refine bodyPost_ret (res64 rfl _ _ w.heap.size _ rfl H3.out (fl_size _)) rfl ?_
  exact ⟨rfl, (HB.out.trans ⟨HK2.out.os, HK2.out.tape, HK2.out.output, HK2.out.size, fun i hi => HK2.out.block i (by have := hsz.out; omega)⟩).trans (F3.out.below (Nat.le_refl _) (by have := HK2.out.size; have := hsz.out; omega))⟩
end Go.Proofs.YtbdjpacmbaoaeaaDoor
