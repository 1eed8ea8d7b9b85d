/- The reference: Longest. -/
import Derived.Test.YtejgcpohdbiaoaaLonW
namespace Go.Proofs.Ytejgcpohdbiaoaa
open Go.RowKit

/-- the lengths, from r on -/
structure FrI (w wr : World) (g : Nat) (l : List Int) (r : Nat) : Prop where
  row : RI wr g (List.replicate r 0 ++ nats (lenF (l.drop r)))
  u : Below w.heap.size w wr
  new : w.heap.size ≤ g
  le : r ≤ l.length
/-- within a round: what is there so far at q, behind the positions up to k -/
structure FkI (w wr : World) (g : Nat) (l : List Int) (q k : Nat) (a : Nat) : Prop where
  row : RI wr g (List.replicate q 0 ++ (a : Int) :: nats (lenF (l.drop (q + 1))))
  acc : ∀ h : q < l.length, acc l[q] (l.drop k) (lenF (l.drop k)) a = mx l[q] (l.drop (q + 1)) + 1
  u : Below w.heap.size w wr
  new : w.heap.size ≤ g
  le : a ≤ 4097
theorem FrI.open_ {w wr : World} {g : Nat} {l : List Int} {q : Nat} (h : FrI w wr g l (q + 1)) : FkI w (wr.setCell ⟨g, q, none⟩ (.int .i64 1)) g l q (q + 1) 1 := by
  refine ⟨?_, fun hq => ?_, h.u.setCell (by exact h.new) _, h.new, by omega⟩
  · have h1 := h.row.set q 1
    have e : (List.replicate (q + 1) (0 : Int) ++ nats (lenF (l.drop (q + 1)))).set q 1 = List.replicate q 0 ++ ((1 : Nat) : Int) :: nats (lenF (l.drop (q + 1))) := by
      rw [List.replicate_succ', List.append_assoc, List.set_append_right _ _ (by simp)]
      simp
    rw [e] at h1
    exact h1
  · rw [acc_mx _ _ _ (Nat.le_refl _)]; omega
theorem FkI.shut {w wr : World} {g : Nat} {l : List Int} {q a : Nat} (h : FkI w wr g l q l.length a) (hq : q < l.length) : FrI w wr g l q ∧ a = mx l[q] (l.drop (q + 1)) + 1 := by
  have h1 := h.acc hq
  rw [List.drop_length, acc_end] at h1
  refine ⟨⟨?_, h.u, h.new, by omega⟩, h1⟩
  rw [List.drop_eq_getElem_cons hq]
  simp only [lenF, nats, List.map_cons]
  rw [← h1]
  exact h.row
theorem FkI.keep {w wr : World} {g : Nat} {l : List Int} {q k a : Nat} (h : FkI w wr g l q k a) (hk : k < l.length) (hno : ∀ hq : q < l.length, ¬ (l[q] < l[k] ∧ a < mx l[k] (l.drop (k + 1)) + 1 + 1)) : FkI w wr g l q (k + 1) a :=
  ⟨h.row, fun hq => by rw [← h.acc hq, acc_step _ hk, if_neg (hno hq)], h.u, h.new, h.le⟩
theorem FkI.up {w wr : World} {g : Nat} {l : List Int} {q k a : Nat} (h : FkI w wr g l q k a) (hl : l.length ≤ 4096) (hk : k < l.length) (hyes : ∀ hq : q < l.length, l[q] < l[k] ∧ a < mx l[k] (l.drop (k + 1)) + 1 + 1) :
    FkI w (wr.setCell ⟨g, q, none⟩ (.int .i64 ((mx l[k] (l.drop (k + 1)) + 1 + 1 : Nat) : Int))) g l q (k + 1) (mx l[k] (l.drop (k + 1)) + 1 + 1) := by
  refine ⟨?_, fun hq => by rw [← h.acc hq, acc_step _ hk, if_pos (hyes hq)], h.u.setCell (by exact h.new) _, h.new, by have := mx_le l[k] (l.drop (k + 1)); rw [List.length_drop] at this; omega⟩
  have h1 := h.row.set q ((mx l[k] (l.drop (k + 1)) + 1 + 1 : Nat) : Int)
  rw [List.set_append_right _ _ (by simp)] at h1
  simpa using h1
theorem FkI.at_ {w wr : World} {g : Nat} {l : List Int} {q k a : Nat} (h : FkI w wr g l q k a) (hk : k < l.length) (hqk : q < k) : wr.cell? ⟨g, k, none⟩ = some (.int .i64 ((mx l[k] (l.drop (k + 1)) + 1 : Nat) : Int)) := by
  refine h.row.cell ?_
  rw [List.getElem?_append_right (by simp; omega), List.length_replicate]
  obtain ⟨j, hj⟩ : ∃ j, k - q = j + 1 := ⟨k - q - 1, by omega⟩
  rw [hj, List.getElem?_cons_succ]
  have h2 := lenF_get (l := l.drop (q + 1)) (i := j) (by rw [List.length_drop]; omega)
  unfold nats
  rw [List.getElem?_map, h2]
  simp only [List.getElem_drop, List.drop_drop, Option.map_some]
  have e : q + 1 + j = k := by omega
  have e2 : q + 1 + (j + 1) = k + 1 := by omega
  simp only [e, e2]
  rfl
theorem FkI.own {w wr : World} {g : Nat} {l : List Int} {q k a : Nat} (h : FkI w wr g l q k a) : wr.cell? ⟨g, q, none⟩ = some (.int .i64 (a : Nat)) := by
  refine h.row.cell ?_
  rw [List.getElem?_append_right (by simp), List.length_replicate, Nat.sub_self]
  rfl
theorem FkI.drewN {w wr : World} {g : Nat} {l : List Int} {q k a : Nat} (h : FkI w wr g l q k a) (m : Nat) : FkI w (wr.drewN m) g l q k a := ⟨h.row, h.acc, ⟨h.u.os, h.u.tape, h.u.output, h.u.size, h.u.block⟩, h.new, h.le⟩
theorem top_drop {l : List Int} {q : Nat} (hq : q < l.length) : top (l.drop q) = max (top (l.drop (q + 1))) (mx l[q] (l.drop (q + 1)) + 1) := by
  rw [List.drop_eq_getElem_cons hq]
  rfl
/-- while positions are taken -/
structure TkI (w wr : World) (g : Nat) (v : Value) (l : List Int) (i b : Nat) (S : List Nat) : Prop where
  row : RI wr g (nats (lenF l))
  own : OwnI wr (g + 1) v (nats S)
  rest : S ++ sel (lenF (l.drop i)) i b = longR l
  last : ∀ z, S.getLast? = some z → ∃ h : z < l.length, mx l[z] (l.drop i) = b
  u : Below w.heap.size w wr
  new : w.heap.size ≤ g
  short : S.length ≤ i
theorem TkI.drewN {w wr : World} {g : Nat} {v : Value} {l : List Int} {i b : Nat} {S : List Nat} (h : TkI w wr g v l i b S) (m : Nat) : TkI w (wr.drewN m) g v l i b S := ⟨h.row, own_next h.own (below_drewN wr m), h.rest, h.last, ⟨h.u.os, h.u.tape, h.u.output, h.u.size, h.u.block⟩, h.new, h.short⟩
theorem TkI.skip {w wr : World} {g : Nat} {v : Value} {l : List Int} {i b : Nat} {S : List Nat} (h : TkI w wr g v l i b S) (hi : i < l.length) (hb : 0 < b) (hc : mx l[i] (l.drop (i + 1)) + 1 ≠ b) : TkI w wr g v l (i + 1) b S := by
  have h1 := h.rest
  have hd := List.drop_eq_getElem_cons hi
  rw [hd] at h1
  simp only [lenF, sel] at h1
  rw [if_neg (by omega), if_neg hc] at h1
  refine ⟨h.row, h.own, h1, fun z hz => ?_, h.u, h.new, by have := h.short; omega⟩
  obtain ⟨hl, e⟩ := h.last z hz
  rw [hd] at e
  exact ⟨hl, need_skip e hc⟩
theorem TkI.pick {w wr : World} {g : Nat} {v : Value} {l : List Int} {i b : Nat} {S : List Nat} (h : TkI w wr g v l i b S) (hi : i < l.length) (hc : mx l[i] (l.drop (i + 1)) + 1 = b) {z : Nat} (hz : S.getLast? = some z) : ∃ hl : z < l.length, l[z] < l[i] := by
  obtain ⟨hl, e⟩ := h.last z hz
  rw [List.drop_eq_getElem_cons hi] at e
  exact ⟨hl, need_pick e hc⟩
theorem TkI.take {w wr w' : World} {g : Nat} {v v' : Value} {l : List Int} {i b : Nat} {S : List Nat} (h : TkI w wr g v l i b S) (hi : i < l.length) (hb : 0 < b) (hc : mx l[i] (l.drop (i + 1)) + 1 = b) (ho : OwnI w' (g + 1) v' (nats S ++ [(i : Int)])) (hu : Below (g + 1) wr w') : TkI w w' g v' l (i + 1) (b - 1) (S ++ [i]) := by
  have h1 := h.rest
  have hd := List.drop_eq_getElem_cons hi
  rw [hd] at h1
  simp only [lenF, sel] at h1
  rw [if_neg (by omega), if_pos hc] at h1
  refine ⟨h.row.keep (hu.block g (by omega)), ?_, by rw [List.append_assoc]; exact h1, fun z hz => ?_, h.u.trans (hu.mono (by have := h.new; omega)), h.new, by rw [List.length_append, List.length_singleton]; have := h.short; omega⟩
  · have e : nats (S ++ [i]) = nats S ++ [(i : Int)] := by simp [nats]
    rw [e]; exact ho
  · rw [List.getLast?_append] at hz
    simp at hz
    subst hz
    exact ⟨hi, by omega⟩
set_option maxRecDepth 100000 in
set_option maxHeartbeats 4000000 in
theorem refLongest_any {w : World} {A : Option Addr} {c : Nat} {l : List Int} (h : SlI w A c l) (hl : l.length ≤ 4096) :
    Calls Try.prog 12 #[.slice A l.length c] w (RowR (nats (longR l)) w) := by
  have HS := Lib.hid h
  have hmk := make_ints l.length l.length l.length l.length rfl rfl (Nat.le_refl _) (by omega)
  obtain ⟨g, hg⟩ : ∃ g : Nat, w.heap.size = g := ⟨_, rfl⟩
  obtain ⟨V, hV⟩ : ∃ V : World, w.alloc (.cells (madeCells #[.int .i64 0] l.length) 3) = V := ⟨_, rfl⟩
  have H0 : Hid (FrI w V g l l.length) := Lib.hid (by
    rw [← hV, ← hg]
    exact ⟨by rw [List.drop_length]; simpa [lenF, nats] using RI.made w l.length, below_new _ _, Nat.le_refl _, Nat.le_refl _⟩)
  have htd : Hid (top (l.drop l.length) = 0) := Lib.hid (by rw [List.drop_length]; rfl)
  have HVG : Hid (g < V.heap.size) := Lib.hid (by rw [← hV, ← hg]; simp)
  clear h
  go_enter Try.func12, Try.ntmps12
  go_upto_region 5 with fail
  clear hV hg hmk
  go_loopw [5, 6] (fun bs v wr => ∃ r : Nat, bs = .int .i64 (top (l.drop r) : Nat) ∧ v = .int .i64 ((r : Int) - 1) ∧ Hid (FrI w wr g l r)) (fun _ v _ => (intOf v + 1).toNat)
  case atStart => exact ⟨l.length, by rw [htd.out]; rfl, rfl, H0⟩
  case round =>
    clear H0 HVG htd
    obtain ⟨r, rfl, rfl, HI⟩ := hrel
    have hle := HI.out.le
    have htl := top_le (l.drop r)
    rw [List.length_drop] at htl
    rcases Nat.eq_zero_or_pos r with rfl | hp
    · -- the lengths are there
      rw [show ((0 : Nat) : Int) - 1 = -1 from rfl]
      have hrow := HI.out.row
      rw [List.replicate_zero, List.nil_append, List.drop_zero] at hrow
      rw [List.drop_zero] at htl ⊢
      have H1 : Hid (TkI w wr g (.slice none 0 0) l 0 (top l) []) := Lib.hid ⟨hrow, own_nil _ _, rfl, by simp, HI.out.u, HI.out.new, Nat.le_refl _⟩
      clear hrow HI
      go_wp2_with fail
      go_loopw [5, 8, 9] (fun bs o v wk => ∃ (i b : Nat) (S : List Nat), bs = .int .i64 b ∧ v = .int .i64 i ∧ i ≤ l.length ∧ b ≤ 4096 ∧ Hid (TkI w wk g o l i b S)) (fun _ _ v _ => l.length - (intOf v).toNat)
      case atStart => exact ⟨0, top l, [], rfl, rfl, Nat.zero_le _, by omega, H1⟩
      case round =>
        clear H1
        obtain ⟨i, bb, S, rfl, rfl, hi, hb4, HI⟩ := hrel
        by_cases hlt : i < l.length
        · rcases Nat.eq_zero_or_pos bb with rfl | hbp
          · have hr := HI.out.rest
            rw [sel_zero, List.append_nil] at hr
            subst hr
            go_wp2_with fail
            go_ret
            exact rowR_own HI.out.own HI.out.u
          · have hc := HI.out.row.cell (i := i) (x := ((mx l[i] (l.drop (i + 1)) + 1 : Nat) : Int)) (by
              unfold nats
              rw [List.getElem?_map, lenF_get hlt]
              rfl)
            have hmb := mx_le l[i] (l.drop (i + 1))
            rw [List.length_drop] at hmb
            obtain ⟨A', c', rfl, hs⟩ := HI.out.own.sl
            have hs1 := hs.le
            have hs2 := hs.max
            have HSk := Lib.hid (fun nq => (HI.out.drewN nq).skip hlt hbp)
            have HTk := Lib.hid (fun nq (w' : World) (v' : Value) => (HI.out.drewN nq).take (w' := w') (v' := v') hlt hbp)
            have HPk := Lib.hid (fun (e : mx l[i] (l.drop (i + 1)) + 1 = bb) (z : Nat) (hz : S.getLast? = some z) => HI.out.pick hlt e hz)
            have hrd := HS.out.rd.below HI.out.u
            obtain ⟨b1, o1, hA1, _, c1⟩ := hrd i hlt
            obtain ⟨x, hx⟩ : ∃ x, l[i] = x := ⟨_, rfl⟩
            simp only [hx] at hc hmb HSk HTk HPk c1
            obtain ⟨m, hm⟩ : ∃ m, mx x (l.drop (i + 1)) + 1 = m := ⟨_, rfl⟩
            have hm4 : m ≤ 4096 := by omega
            simp only [hm] at hc HSk HTk HPk
            clear hm hmb
            by_cases hmb : m = bb
            · have HT2 := Lib.hid (fun nq w' v' => HTk.out nq w' v' hmb)
              have hSs := HI.out.short
              subst hmb
              rcases List.eq_nil_or_concat S with rfl | ⟨S', z, rfl⟩
              · subst hA1
                have HI2 := Lib.hid (fun nq => own_next (HI.out.drewN nq).own (below_new (wr.drewN nq) (.cells #[.int .i64 (i : Int)] 3)))
                have HBW := Lib.hid (fun nq => (show g + 1 ≤ (wr.drewN nq).heap.size from HI.out.row.lt))
                have HS1 := Lib.hid (fun nq => sl_one (wr.drewN nq) (i : Int))
                have e0 : (nats []).length = 0 := rfl
                rw [e0] at HI2 hs1 ⊢
                clear HSk HTk HPk hrd hs hx e0
                go_upto_region 18 with fail
                go_quiet (fail)
                go_wp2_with (
                  at_builtin
                  refine wp_app rfl (.tmp 101) (.tmp 103) rfl (g + 1) _ [] rfl _ 1 [(i : Int)] 1 rfl rfl (HI2.out nq) (HS1.out nq) (by simp) (Nat.le_trans (HBW.out nq) (by simp)) ?_
                  intro v3 w3 H3 B3 G3)
                have HN := Lib.hid (HT2.out nq w3 v3 H3.out (((below_new (wr.drewN nq) _).mono (HBW.out nq)).trans B3.out))
                clear H3 B3 G3 HT2 HI2
                go_roundw
                case rel => exact ⟨i + 1, m - 1, [i], by rw [show ((m - 1 : Nat) : Int) = (m : Int) - 1 by omega], by go_num, by omega, by omega, HN⟩
                case measure => first | (simp [intOf]; done) | (simp [intOf]; omega)
              · rw [List.concat_eq_append] at *
                obtain ⟨hzl, hzx⟩ := HPk.out rfl z (by simp)
                obtain ⟨b2, o2, hA2, _, c2⟩ := hs.rd S'.length (by simp [nats])
                have hz2 : (nats (S' ++ [z]))[S'.length]'(by simp [nats]) = (z : Int) := by simp [nats]
                rw [hz2] at c2
                obtain ⟨b3, o3, hA3, _, c3⟩ := hrd z hzl
                rw [hA1] at hA3
                injection hA3 with hA3
                injection hA3 with e1 e2
                subst e1; subst e2
                obtain ⟨y, hy⟩ : ∃ y, l[z] = y := ⟨_, rfl⟩
                rw [hy] at hzx c3
                subst hA1; subst hA2
                have HI2 := Lib.hid (fun nq => own_next (HI.out.drewN nq).own (below_new (wr.drewN nq) (.cells #[.int .i64 (i : Int)] 3)))
                have HBW := Lib.hid (fun nq => (show g + 1 ≤ (wr.drewN nq).heap.size from HI.out.row.lt))
                have HS1 := Lib.hid (fun nq => sl_one (wr.drewN nq) (i : Int))
                have e0 : (nats (S' ++ [z])).length = S'.length + 1 := by simp [nats]
                have hSl : S'.length + 1 ≤ 4096 := by
                  have := HI.out.short
                  simp at this
                  omega
                obtain ⟨N, hN⟩ : ∃ N, S'.length + 1 = N := ⟨_, rfl⟩
                have q1 : ((N : Int) == 0) = false := by simp; omega
                have q2 : IntKind.i64.wrap ((N : Int) - 1) = (S'.length : Int) := by rw [IntWalk.i64_in _ (by omega)]; omega
                have q3 : S'.length < N := by omega
                have q4 : (0 : Int) ≤ (N : Int) - 1 := by omega
                rw [hN] at e0 hSl
                rw [e0] at HI2 hs1 ⊢
                have HSL := Lib.hid e0
                clear HSk HTk HPk hrd hs e0 hy hz2 hSs hN
                go_upto_region 18 with fail
                go_quiet (fail)
                go_wp2_with (
                  at_builtin
                  refine wp_app rfl (.tmp 101) (.tmp 103) rfl (g + 1) _ (nats (S' ++ [z])) rfl _ 1 [(i : Int)] 1 rfl rfl (by unfold OwnI; rw [HSL.out]; exact HI2.out nq) (HS1.out nq) (by rw [HSL.out]; simp; omega) (Nat.le_trans (HBW.out nq) (by simp)) ?_
                  intro v3 w3 H3 B3 G3)
                have HN := Lib.hid (HT2.out nq w3 v3 H3.out (((below_new (wr.drewN nq) _).mono (HBW.out nq)).trans B3.out))
                clear H3 B3 G3 HT2 HI2
                go_roundw
                case rel => exact ⟨i + 1, m - 1, (S' ++ [z]) ++ [i], by rw [show ((m - 1 : Nat) : Int) = (m : Int) - 1 by omega], by go_num, by omega, by omega, HN⟩
                case measure => first | (simp [intOf]; done) | (simp [intOf]; omega)
            · have HN := Lib.hid (fun nq => HSk.out nq hmb)
              have hmb2 : ((m : Int) == (bb : Int)) = false := by simp; omega
              subst hA1
              clear HSk HTk HPk hrd hs hx hmb
              go_upto_region 18 with fail
              go_quiet (fail)
              go_wp2_with fail
              go_roundw
              case rel => exact ⟨i + 1, bb, S, rfl, by go_num, by omega, hb4, HN.out _⟩
              case measure => first | (simp [intOf]; done) | (simp [intOf]; omega)
        · obtain rfl : i = l.length := by omega
          have hr := HI.out.rest
          rw [List.drop_length, show lenF [] = [] from rfl, show sel [] l.length bb = [] from rfl, List.append_nil] at hr
          subst hr
          go_wp2_with fail
          go_ret
          exact rowR_own HI.out.own HI.out.u
    · obtain ⟨q, rfl⟩ : ∃ q, r = q + 1 := ⟨r - 1, by omega⟩
      have hq : ((q + 1 : Nat) : Int) - 1 = (q : Int) := by omega
      have hlt : q < l.length := by omega
      rw [hq]
      clear hq
      obtain ⟨z, hz⟩ : ∃ z, wr.cell? ⟨g, q, none⟩ = some (.int .i64 z) := ⟨_, HI.out.row.cell (List.getElem?_eq_getElem (by simp; omega))⟩
      have hf := HI.out.row.frozen q
      have H0 := Lib.hid HI.out.open_
      obtain ⟨b, o, hA, hb, hcq⟩ := HS.out.rd q hlt
      have HTD := Lib.hid (top_drop hlt)
      generalize top (l.drop (q + 1)) = tp at *
      subst hA
      clear hcq hb
      go_upto_region 8 with fail
      obtain ⟨W, hW⟩ : ∃ W : World, wr.setCell ⟨g, q, none⟩ (.int .i64 1) = W := ⟨_, rfl⟩
      rw [hW] at H0 ⊢
      clear hW hz hf HI
      go_wp2_with fail
      go_loopw [7] (fun v wk => ∃ k a : Nat, v = .int .i64 k ∧ q < k ∧ k ≤ l.length ∧ 1 ≤ a ∧ Hid (FkI w wk g l q k a)) (fun v _ => l.length - (intOf v).toNat)
      case atStart => exact ⟨q + 1, 1, by go_num, by omega, by omega, Nat.le_refl _, H0⟩
      case round =>
        clear H0
        obtain ⟨k, a, rfl, hqk, hk, ha, HK⟩ := hrel
        by_cases hkl : k < l.length
        · have hrd := HS.out.rd.below HK.out.u
          obtain ⟨b1, o1, e1, _, c1⟩ := hrd k hkl
          injection e1 with e1
          injection e1 with e1 e2
          subst e1; subst e2
          obtain ⟨b1, o1, e1, _, c2⟩ := hrd q hlt
          injection e1 with e1
          injection e1 with e1 e2
          subst e1; subst e2
          have c3 := HK.out.at_ hkl hqk
          have c4 := HK.out.own
          have f4 := HK.out.row.frozen q
          have HKp := Lib.hid (fun nq => (HK.out.drewN nq).keep hkl)
          have HUp := Lib.hid (fun nq => (HK.out.drewN nq).up hl hkl)
          have hmb := mx_le l[k] (l.drop (k + 1))
          rw [List.length_drop] at hmb
          have hae := HK.out.le
          obtain ⟨x, hx⟩ : ∃ x, l[k] = x := ⟨_, rfl⟩
          obtain ⟨y, hy⟩ : ∃ y, l[q] = y := ⟨_, rfl⟩
          rw [hx] at c1 c3 hmb
          rw [hy] at c2
          simp only [hx, hy] at HKp HUp
          obtain ⟨m, hm⟩ : ∃ m, mx x (l.drop (k + 1)) + 1 = m := ⟨_, rfl⟩
          have hm4 : m ≤ 4097 := by omega
          rw [hm] at c3
          simp only [hm] at HKp HUp
          clear hrd hx hy hm hmb
          by_cases hxy : y < x
          · by_cases ham : a < m + 1
            · have HN := Lib.hid (fun nq => HUp.out nq (fun _ => ⟨hxy, ham⟩))
              have d1 : ((m : Int) + 1 > (a : Int)) := by omega
              have hmm : ((m + 1 : Nat) : Int) = (m : Int) + 1 := by omega
              have HMM := Lib.hid hmm
              clear HKp HUp hmm
              go_upto_region 11 with fail
              go_quiet (fail)
              go_wp2_with fail
              go_roundw
              case rel => exact ⟨k + 1, m + 1, by go_num, by omega, by omega, by omega, by have h := HN.out nq; rw [HMM.out] at h; exact h⟩
              case measure => first | (simp [intOf]; done) | (simp [intOf]; omega)
            · have HN := Lib.hid (fun nq => HKp.out nq (fun _ h => ham h.2))
              have d1 : ¬ ((a : Int) < (m : Int) + 1) := by omega
              clear HKp HUp
              go_upto_region 11 with fail
              go_quiet (fail)
              go_wp2_with fail
              go_roundw
              case rel => exact ⟨k + 1, a, by go_num, by omega, by omega, ha, HN.out _⟩
              case measure => first | (simp [intOf]; done) | (simp [intOf]; omega)
          · have HN := Lib.hid (fun nq => HKp.out nq (fun _ h => hxy h.1))
            clear HKp HUp
            go_upto_region 11 with fail
            go_quiet (fail)
            go_wp2_with fail
            go_roundw
            case rel => exact ⟨k + 1, a, by go_num, by omega, by omega, ha, HN.out _⟩
            case measure => first | (simp [intOf]; done) | (simp [intOf]; omega)
        · obtain rfl : k = l.length := by omega
          obtain ⟨hF, ha2⟩ := HK.out.shut hlt
          have c4 := HK.out.own
          have hae := HK.out.le
          have HF := Lib.hid hF
          have HT2 := HTD.out
          rw [← ha2] at HT2
          have HT3 := Lib.hid HT2
          have htp : tp ≤ 4096 := by omega
          clear hF ha2 HT2
          go_wp2_with fail
          go_roundw
          case rel => exact ⟨q, by rw [HT3.out]; exact congrArg (Value.int .i64) (by split <;> omega), rfl, HF⟩
          case measure => first | (simp [intOf]; done) | (simp [intOf]; omega)
end Go.Proofs.Ytejgcpohdbiaoaa
