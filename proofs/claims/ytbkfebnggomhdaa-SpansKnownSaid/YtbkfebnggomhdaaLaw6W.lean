/- The walk of the law SpansKnown. -/
import Derived.Test.YtbkfebnggomhdaaKnG
namespace Go.Proofs.Ytbkfebnggomhdaa
open Go.RowKit
def LivesSaid6 : Prop := ∀ w : World, Calls Try.prog 9 #[] w fun e w' => e = .returned (.bool true) ∧ Below w.heap.size w w'
structure S6 (w W : World) (A B P : Option Addr) : Prop where
  ra : Rd W W.heap.size A (ev 4097)
  rb : Rd W W.heap.size B (od 4097)
  rp : RdI W W.heap.size P (pl 4097)
  hb : Below w.heap.size w W
theorem RdI.next {W W' : World} {A : Option Addr} {zs : List Int} (h : RdI W W.heap.size A zs) (hb : Below W.heap.size W W') : RdI W' W'.heap.size A zs := fun k hl => by
  obtain ⟨b, o, e, h0, h1⟩ := h.below hb k hl
  exact ⟨b, o, e, Nat.lt_of_lt_of_le h0 hb.size, h1⟩
theorem S6.next {w W W1 : World} {A B P : Option Addr} (h : S6 w W A B P) (k : Below W.heap.size W W1) : S6 w W1 A B P :=
  ⟨h.ra.next k, h.rb.next k, h.rp.next k, h.hb.trans (k.mono h.hb.size)⟩
theorem S6.drew {w W : World} {A B P : Option Addr} (h : S6 w W A B P) : S6 w W.drew A B P := ⟨h.ra, h.rb, h.rp, h.hb.drew⟩

theorem ev_get (n k : Nat) (h : k < (ev n).length) : (ev n)[k] = (4 * (k : Int), 4 * (k : Int) + 1) := by
  have hk : k < n := by rw [ev_len] at h; exact h
  have h2 : (ev n)[k]? = some (4 * (k : Int), 4 * (k : Int) + 1) := by unfold ev; simp [hk]
  rw [List.getElem?_eq_getElem h] at h2
  exact Option.some.inj h2
theorem wide8 {W : World} {base g cap : Nat} (h : Own W base 28 (.slice (some ⟨g, 0, none⟩) 4096 cap) (ev 4096)) :
    W.cell? ⟨g, 8191, none⟩ = some (.int .i64 16381) ∧ W.frozen? ⟨g, 8191, none⟩ = false ∧ Own (W.setCell ⟨g, 8191, none⟩ (.int .i64 16383)) base 28 (.slice (some ⟨g, 0, none⟩) 4096 cap) (wd 4095) := by
  have hk : 4095 < (ev 4096).length := by rw [ev_len]; omega
  have hg := ev_get 4096 4095 hk
  have hl := flat_len (ev 4096)
  rw [ev_len] at hl
  obtain ⟨_, f2⟩ := flat_get (ev 4096) 4095 hk
  rw [hg] at f2
  have hw : (ev 4096).set 4095 (16380, 16383) = wd 4095 := wd_set 4095
  have hs := flat_set2 (ev 4096) 4095 hk 16380 16383 (by rw [hg]; rfl)
  rw [hw] at hs
  have h0 : W.ownsRow base 28 2 (.slice (some ⟨g, 0, none⟩) 4096 cap) (ev 4096).length (flat (ev 4096)) := h
  rw [ev_len] at h0
  have hcl := h0.cellAt 8191 (by omega)
  have hst := h0.stored 8191 (.int .i64 16383)
  refine ⟨hcl.trans f2, h0.frozenAt 8191, ?_⟩
  have h1 := hst.1
  unfold Own
  rw [wd_len]
  have hs' : (flat (ev 4096)).set 8191 (.int .i64 16383) = flat (wd 4095) := hs
  rw [hs'] at h1
  exact h1
theorem q2 : chk2 [(0, 1073741824)] [(1, 1073741823)] = 0 := chk2_0 (by simp [Val]) (by simp [Val]) (by simp) (by simp)
theorem q3 : rmC [(0, 1073741824)] 0 1073741823 = 0 := by
  unfold rmC; rw [if_pos (chk_of_val (by simp [Val]) (by simp)), if_pos ⟨okP_t (by omega) (by omega), okP_t (by omega) (by omega)⟩]
theorem q4 : inC [(0, 1073741824)] 1073741824 1073741824 = 0 := by
  unfold inC; rw [if_pos (chk_of_val (by simp [Val]) (by simp)), if_pos ⟨okP_t (by omega) (by omega), okP_t (by omega) (by omega)⟩, if_pos (.inl (by simp [endOf]))]
theorem q1 : inC [(0, 9), (20, 21)] 5 1073741804 = 4 := by
  unfold inC; rw [if_pos (chk_of_val (by simp [Val]) (by simp)), if_pos ⟨okP_t (by omega) (by omega), okP_t (by omega) (by omega)⟩, if_neg (by simp [endOf])]
theorem km1 (i : Int) : (hasB [((0 : Int), (1073741824 : Int))] i && !hasB [((1 : Int), (1073741823 : Int))] i) = hasB [((0 : Int), (1 : Int)), (1073741823, 1073741824)] i := by
  rw [show [((0 : Int), (1 : Int)), (1073741823, 1073741824)] = [((0 : Int), (1 : Int))] ++ [((1073741823 : Int), (1073741824 : Int))] from rfl, hasB_app, hasB_one, hasB_one, hasB_one, hasB_one, Bool.eq_iff_iff]
  simp only [Bool.or_eq_true, Bool.and_eq_true, Bool.not_eq_true', decide_eq_true_eq, decide_eq_false_iff_not]
  omega
theorem km2 (i : Int) : remM [((0 : Int), (1073741824 : Int))] 0 1073741823 i = hasB [((0 : Int), (1 : Int))] i := by
  unfold remM
  rw [hasB_one, hasB_one, hasB_one]
  by_cases h : i < 0
  · rw [if_pos h, decide_eq_decide]; show (0 : Int) ≤ i ∧ i < 1073741824 ↔ (0 : Int) ≤ i ∧ i < 1; omega
  · rw [if_neg h, decide_eq_decide]; show (0 : Int) ≤ i + 1073741823 ∧ i + 1073741823 < 1073741824 ↔ (0 : Int) ≤ i ∧ i < 1; omega
theorem km3 (i : Int) : insM [((0 : Int), (1073741824 : Int))] 1073741824 1073741824 i = hasB [((0 : Int), (1073741824 : Int))] i := by
  unfold insM
  rw [hasB_one, hasB_one]
  by_cases h : i < 1073741824
  · rw [if_pos h]
  · rw [if_neg h]
    by_cases h2 : i < 1073741824 + 1073741824
    · rw [if_pos h2, eq_comm, decide_eq_false_iff_not]; show ¬((0 : Int) ≤ i ∧ i < 1073741824); omega
    · rw [if_neg h2, decide_eq_decide]; show (0 : Int) ≤ i - 1073741824 ∧ i - 1073741824 < 1073741824 ↔ (0 : Int) ≤ i ∧ i < 1073741824; omega

set_option maxRecDepth 100000 in
set_option maxHeartbeats 4000000 in
theorem law6_any (hL : LivesSaid6) (w : World) :
    Calls Try.prog 8 #[] w fun e w' => e = .returned (.bool true) ∧ Below w.heap.size w w' := by
  have HL := Lib.hid hL; clear hL
  obtain ⟨i0, hi0, hz0, hz1, hz2⟩ := info_parts Try.info28
  obtain ⟨i3, hi3, hy0, hy1, hy2⟩ := info_parts Try.info3
  go_enter Try.func8, Try.ntmps8
  go_wp2_with fail
  go_loopw [1, 2, 3, 4] (fun u1 u2 u3 u4 wr => ∃ k : Nat, k ≤ 4097 ∧ u4 = .int .i64 k ∧ G3 wr w.heap.size 28 2 u1 k (flat (ev k)) 28 2 u2 k (flat (od k)) 3 1 u3 k (iI (pl k)) ∧ Below w.heap.size w wr) (fun _ _ _ u4 _ => 4097 - (intOf u4).toNat)
  case atStart => exact ⟨0, Nat.zero_le _, rfl, by rw [ev_flat0, od_flat0, pl_flat0]; exact G3.start _ _ _ _ _ _ _ _, Below.refl _ _⟩
  case round =>
    obtain ⟨k, hk, rfl, hg, hb⟩ := hrel
    have hsz := hb.size
    by_cases hlt : k < 4097
    · have hltI : (k : Int) < 4097 := by omega
      have hk0 : (0 : Int) ≤ (k : Int) := by omega
      have E1 := Lib.hid (ev_flat k)
      have E2 := Lib.hid (od_flat k)
      have E3 := Lib.hid (pl_flat k)
      generalize flat (ev k) = l1 at *
      generalize flat (od k) = l2 at *
      generalize iI (pl k) = l3 at *
      go_wp2_with (first
        | (at_builtin
           refine wpList_append_lies _ rfl (.tmp 30) (.tmp 37) _ rfl w.heap.size 28 i0 _ 2 16 Try.underlying22 hi0 hz0 hz1 hz2 rfl (by omega) u1 k l1 rfl (World.ownsRow.alloc hg.o1 _)
             ⟨wr.heap.size, 0, none⟩ 1 1 [.int .i64 (4 * (k : Int)), .int .i64 (4 * (k : Int) + 1)] rfl rfl (World.news_of_block (cs := #[.int .i64 (4 * (k : Int)), .int .i64 (4 * (k : Int) + 1)]) (t := 28) (fr := (0, 0)) (heap_alloc_new wr _)) (by simp [Value.oneCell'])
             (by omega) (by simp [maxLen]; omega) (by omega) (by simp; omega) (wr.heap.size + 1) (by simp) ?_
           intro g1 c1 w1 hown hgrow hat hlt1
           have hg1 := (hg.step hown hgrow hat).rot
           have hb1 := hg.below hgrow hb hsz (Nat.le_refl _)
           have sz1 := hb1.size
           clear hown hgrow hat hlt1)
        | (at_builtin
           refine wpList_append_lies _ rfl (.tmp 39) (.tmp 47) _ rfl w.heap.size 28 i0 _ 2 16 Try.underlying22 hi0 hz0 hz1 hz2 rfl (by omega) u2 k l2 rfl (World.ownsRow.alloc hg1.o1 _)
             ⟨w1.heap.size, 0, none⟩ 1 1 [.int .i64 (4 * (k : Int) + 2), .int .i64 (4 * (k : Int) + 3)] rfl rfl (World.news_of_block (cs := #[.int .i64 (4 * (k : Int) + 2), .int .i64 (4 * (k : Int) + 3)]) (t := 28) (fr := (0, 0)) (heap_alloc_new w1 _)) (by simp [Value.oneCell'])
             (by omega) (by simp [maxLen]; omega) (by omega) (by simp; omega) (w1.heap.size + 1) (by simp) ?_
           intro g2 c2 w2 hown hgrow hat hlt1
           have hg2 := (hg1.step hown hgrow hat).rot
           have hb2 := hg1.below hgrow hb1 sz1 (Nat.le_refl _)
           have sz2 := hb2.size
           clear hown hgrow hat hlt1)
        | (at_builtin
           refine wpList_append_lies _ rfl (.tmp 49) (.tmp 52) _ rfl w.heap.size 3 i3 _ 1 8 Try.underlying34 hi3 hy0 hy1 hy2 rfl (by omega) u3 k l3 rfl (World.ownsRow.alloc hg2.o1 _)
             ⟨w2.heap.size, 0, none⟩ 1 1 [.int .i64 (4 * (k : Int))] rfl rfl (World.news_of_block (cs := #[.int .i64 (4 * (k : Int))]) (t := 3) (fr := (0, 0)) (heap_alloc_new w2 _)) (by simp [Value.oneCell'])
             (by omega) (by simp [maxLen]; omega) (by omega) (by simp; omega) (w2.heap.size + 1) (by simp) ?_
           intro g3 c3 w3 hown hgrow hat hlt1
           have hg3 := (hg2.step hown hgrow hat).rot
           have hb3 := hg2.below hgrow hb2 sz2 (Nat.le_refl _)
           clear hown hgrow hat hlt1))
      go_roundw
      case rel => exact ⟨k + 1, by omega, by go_num, by rw [E1.out, E2.out, E3.out]; exact hg3, hb3⟩
      case measure => simp [intOf]; omega
    · obtain rfl : k = 4097 := by omega
      obtain ⟨A, c1, rfl, f1, ra⟩ := rowS hg.o1 (ev_len _)
      obtain ⟨B, c2, rfl, f2, rb⟩ := rowS hg.o2 (od_len _)
      obtain ⟨P, c3, rfl, f3, rp⟩ := rowI hg.o3 (pl_len _)
      obtain ⟨b, o, rfl, _, _⟩ := ra 0 (by rw [ev_len]; omega)
      have s6 : S6 w wr (some ⟨b, o, none⟩) B P := ⟨ra, rb, rp, hb⟩
      have t1 : (4096 : Int) ≤ (c1 : Int) := by omega
      have t2 : (1 : Int) ≤ (c2 : Int) := by omega
      have t3 : (4096 : Int) ≤ (c3 : Int) := by omega
      have t4 : (2048 : Int) ≤ (c1 : Int) := by omega
      have t5 : (2048 : Int) ≤ (c2 : Int) := by omega
      clear hg hb hsz ra rb rp
      go_wp2_with fail
      refine (kn1 s6.ra s6.rb (by omega) (by omega)).mono ?_
      rintro e x1 ⟨rfl, k1⟩
      replace s6 := s6.next k1
      clear k1
      go_wp2_with fail
      go_region_held3 (fun W' => S6 w W' (some ⟨b, o, none⟩) B P)
        (first
          | exact s6.drew
          | exact S6.next (by assumption) kk
          | go_keep)
        (first
          | (go_at_call 20; refine (kn2 ?_ ?_ (by omega) (by omega)).mono ?_; (exact S6.ra (by assumption)); (exact S6.rb (by assumption)); rintro e x2 ⟨D2, rfl, kk⟩))
      have s7 : S6 w x2 (some ⟨b, o, none⟩) B P := s6.drew.next kk
      clear s6 kk
      go_wp2_with fail
      refine (kn3 s7.rp).mono ?_
      rintro e x3 ⟨rfl, kk⟩
      replace s7 := s7.next kk
      clear kk
      go_wp2_with fail
      refine (kn4 s7.rp).mono ?_
      rintro e x4 ⟨D4, rfl, kk⟩
      replace s7 := s7.next kk
      clear kk
      go_wp2_with fail
      refine (kn5 (W := x4) [(0, 9), (20, 21)] (by rfl) (by rfl) (by decide) q1).mono ?_
      rintro e x5 ⟨rfl, kk⟩
      replace s7 := s7.next kk
      clear kk
      go_wp2_with fail
      refine (kn6 s7.ra).mono ?_
      rintro e x6 ⟨rfl, kk⟩
      replace s7 := s7.next kk
      clear kk
      go_wp2_with fail
      refine (kn7 s7.ra).mono ?_
      rintro e x7 ⟨rfl, kk⟩
      replace s7 := s7.next kk
      clear kk
      have hown0 : (x7.alloc (.cells #[] 28)).ownsRow w.heap.size 28 2 (.slice (some ⟨x7.heap.size, 0, none⟩) 0 0) 0 [] := World.ownsRow_made x7 #[] 0 s7.hb.size (by simp [maxLen]) rfl
      have rd0 := (s7.ra.next (below_alloc x7 (.cells #[] 28))).ev 4096 (by omega)
      have sz7 := s7.hb.size
      go_wp2_with (
        at_builtin
        refine wpList_append_own_at _ rfl (.tmp 127) (.tmp 128) _ rfl w.heap.size 28 i0 _ 2 16 Try.underlying22 hi0 hz0 hz1 hz2 rfl (by omega) _ 0 [] rfl hown0
          ⟨b, o, none⟩ 4096 c1 (flat (ev 4096)) rfl (by rw [flat_len, ev_len]) rd0.newsF (flat_cell _)
          (by simp [maxLen]) (by omega) (by simp; omega) ?_
        intro v8 x8 hown8 hgrow hnil hat
        have ho8 : Own x8 w.heap.size 28 v8 (ev 4096) := by
          unfold Own; rw [ev_len]; simpa using hown8
        have k8 : Below w.heap.size w x8 := (s7.hb.alloc sz7 _).grown hgrow (by simp; omega) (fun j e => (hown0.lt j e).1)
        obtain ⟨g, cap, hv, hbg, hglt⟩ := World.ownsRow.form ho8 (by rw [ev_len]; omega)
        rw [ev_len] at hv
        subst hv
        obtain ⟨hcl, hfr, ho9⟩ := wide8 ho8
        have hb9 : Below w.heap.size w (x8.setCell ⟨g, 8191, none⟩ (.int .i64 16383)) := k8.setCell (p := ⟨g, 8191, none⟩) hbg _
        obtain ⟨A9, c9, hv9, _, rd9⟩ := ho9.rd
        rw [wd_len] at hv9
        injection hv9 with hv9
        subst hv9
        clear hown8 hgrow hnil hat ho8 ho9 k8 rd0 s7 hown0)
      refine (kn8 (by assumption)).mono ?_
      rintro e x9 ⟨rfl, kk⟩
      have hb : Below w.heap.size w x9 := hb9.trans (kk.mono hb9.size)
      clear kk hb9 rd9 hcl hfr
      have ra : Rd (x9.alloc (.cells #[.int .i64 0, .int .i64 1073741824] 28)) (x9.alloc (.cells #[.int .i64 0, .int .i64 1073741824] 28)).heap.size (some ⟨x9.heap.size, 0, none⟩) [(0, 1073741824)] := Rd.lit rfl
      replace hb := hb.trans ((below_alloc x9 (.cells #[.int .i64 0, .int .i64 1073741824] 28)).mono hb.size)
      have e9 : (x9.alloc (.cells #[.int .i64 0, .int .i64 1073741824] 28)).heap.size = x9.heap.size + 1 := by simp
      have rb1 : Rd ((x9.alloc (.cells #[.int .i64 0, .int .i64 1073741824] 28)).alloc (.cells #[.int .i64 1, .int .i64 1073741823] 28)) ((x9.alloc (.cells #[.int .i64 0, .int .i64 1073741824] 28)).alloc (.cells #[.int .i64 1, .int .i64 1073741823] 28)).heap.size (some ⟨x9.heap.size + 1, 0, none⟩) [(1, 1073741823)] := by
        rw [← e9]; exact Rd.lit rfl
      clear e9
      replace ra := ra.next (below_alloc _ (.cells #[.int .i64 1, .int .i64 1073741823] 28))
      replace hb := hb.trans ((below_alloc _ (.cells #[.int .i64 1, .int .i64 1073741823] 28)).mono hb.size)
      go_wp2_with fail
      refine (op_at without_any [(0, 1073741824)] [(1, 1073741823)] [(0, 1), (1073741823, 1073741824)] ra rb1 (by rfl) (by rfl) (Nat.le_refl _) (Nat.le_refl _) (by decide) (by decide) q2 (by simp [Val]) km1 (by decide) (by rfl)).mono ?_
      rintro e x10 ⟨E10, rfl, r10, kk⟩
      replace ra := ra.next kk
      replace hb := hb.trans (kk.mono hb.size)
      clear kk rb1
      go_wp2_with fail
      refine (rem_at [(0, 1073741824)] [(0, 1)] ra (by rfl) (by decide) q3 (by simp [Val]) km2 (by decide) (by rfl)).mono ?_
      rintro e x11 ⟨E11, rfl, r11, kk⟩
      replace ra := ra.next kk
      replace r10 := r10.next kk
      replace hb := hb.trans (kk.mono hb.size)
      clear kk
      go_wp2_with fail
      refine (ins_at [(0, 1073741824)] [(0, 1073741824)] ra (by rfl) (by decide) q4 (by simp [Val]) km3 (by decide) (by rfl)).mono ?_
      rintro e x12 ⟨E12, rfl, r12, kk⟩
      replace r10 := r10.next kk
      replace r11 := r11.next kk
      replace hb := hb.trans (kk.mono hb.size)
      clear kk ra r12
      go_wp2_with fail
      refine (same_lit (W := x12) [(0, 1), (1073741823, 1073741824)] r10 (by rfl) (by rfl) (by decide)).mono ?_
      rintro e x13 ⟨rfl, kk⟩
      replace r11 := r11.next kk
      replace hb := hb.trans (kk.mono hb.size)
      clear kk r10
      go_wp2_with fail
      refine (same_lit (W := x13) [(0, 1)] r11 (by rfl) (by rfl) (by decide)).mono ?_
      rintro e x14 ⟨rfl, kk⟩
      replace hb := hb.trans (kk.mono hb.size)
      clear kk r11
      go_wp2_with fail
      refine (HL.out _).mono ?_
      rintro e x15 ⟨rfl, kk⟩
      replace hb := hb.trans (kk.mono hb.size)
      clear kk
      go_wp2_with fail
      go_ret
      exact ⟨rfl, hb⟩
end Go.Proofs.Ytbkfebnggomhdaa
