/- The law RisesLeast. -/
import Derived.Test.YtejgcpohdbiaoaaLivW
import Derived.Test.YtejgcpohdbiaoaaLwA
namespace Go.Proofs.Ytejgcpohdbiaoaa
open Go.RowKit

theorem wf_u16 {i : Int} (h : (Lit.int .u16 i).wf = true) : ∃ n : Nat, i = (n : Int) ∧ n ≤ 65535 := by
  have h2 : 0 ≤ i ∧ i ≤ 65535 := by
    simp [Lit.wf, IntKind.min, IntKind.max, IntKind.signed, IntKind.bits] at h
    omega
  exact ⟨i.toNat, by omega, by omega⟩
/-- the argument, and what was returned -/
structure L4 (w W : World) (A A2 : Option Addr) (c : Nat) (l : List Int) (S : List Nat) : Prop where
  arg : SlI W A c l
  got : SlI W A2 S.length (nats S)
  u : Below w.heap.size w W
theorem L4.next {w W W' : World} {A A2 : Option Addr} {c : Nat} {l : List Int} {S : List Nat} (h : L4 w W A A2 c l S) (hb : Below W.heap.size W W') : L4 w W' A A2 c l S :=
  ⟨h.arg.next hb, h.got.next hb, h.u.trans (hb.mono h.u.size)⟩
/-- a rising subsequence of the first i numbers -/
structure Rsg (l : List Int) (i : Nat) (O : List Nat) : Prop where
  lt : ∀ p ∈ O, p < i
  ris : O.Pairwise fun p q => p < q ∧ ∃ (h : p < l.length) (h' : q < l.length), l[p] < l[q]
theorem Rsg.nil (l : List Int) : Rsg l 0 [] := ⟨fun p hp => (by cases hp), List.Pairwise.nil⟩
theorem Rsg.skip {l : List Int} {i : Nat} {O : List Nat} (h : Rsg l i O) : Rsg l (i + 1) O := ⟨fun p hp => by have := h.lt p hp; omega, h.ris⟩
theorem Rsg.take {l : List Int} {i : Nat} {O : List Nat} (h : Rsg l i O) (hi : i < l.length) (hz : ∀ z, O.getLast? = some z → ∃ hl : z < l.length, l[z] < l[i]) : Rsg l (i + 1) (O ++ [i]) := by
  refine ⟨fun p hp => ?_, ?_⟩
  · rcases List.mem_append.1 hp with hp | hp
    · have := h.lt p hp; omega
    · simp at hp; omega
  · rw [List.pairwise_append]
    refine ⟨h.ris, by simp, fun p hp q hq => ?_⟩
    simp at hq
    subst hq
    refine ⟨h.lt p hp, ?_⟩
    rcases List.eq_nil_or_concat O with rfl | ⟨O', z, rfl⟩
    · cases hp
    · rw [List.concat_eq_append] at *
      obtain ⟨hzl, hzx⟩ := hz z (by simp)
      rcases List.mem_append.1 hp with hp | hp
      · obtain ⟨_, h1, h2, h3⟩ := (List.pairwise_append.1 h.ris).2.2 p hp z (by simp)
        exact ⟨h1, hi, by omega⟩
      · simp at hp
        subst hp
        exact ⟨hzl, hi, hzx⟩
theorem Rsg.len {l : List Int} {i : Nat} {O : List Nat} (h : Rsg l i O) : O.length ≤ i := by
  have h1 : ∀ (k : Nat) (hk : k < O.length), k ≤ O[k] := fun k => by
    induction k with
    | zero => intro _; omega
    | succ k ih =>
      intro hk
      have h2 := ih (by omega)
      have h3 := (List.pairwise_iff_getElem.1 h.ris k (k + 1) (by omega) hk (by omega)).1
      omega
  rcases Nat.eq_zero_or_pos O.length with h0 | h0
  · omega
  · have h2 := h1 (O.length - 1) (by omega)
    have h3 := h.lt _ (List.getElem_mem (l := O) (n := O.length - 1) (by omega))
    omega
/-- ahead of each round of the second loop -/
structure LoI (V wr : World) (o : Value) (l : List Int) (i : Nat) (O : List Nat) : Prop where
  own : OwnI wr V.heap.size o (nats O)
  sub : Rsg l i O
  u : Below V.heap.size V wr
theorem LoI.drewN {V wr : World} {o : Value} {l : List Int} {i : Nat} {O : List Nat} (h : LoI V wr o l i O) (m : Nat) : LoI V (wr.drewN m) o l i O :=
  ⟨own_next h.own (below_drewN wr m), h.sub, h.u.trans ((below_drewN wr m).mono h.u.size)⟩
/-- two cells and what was there before -/
def Two (w : World) (b1 o1 b2 o2 i p q : Nat) (w' : World) : Prop :=
  w'.cell? ⟨b1, o1 + i, none⟩ = some (.int .i64 (p : Int)) ∧ w'.cell? ⟨b2, o2 + i, none⟩ = some (.int .i64 (q : Int)) ∧ b1 < w'.heap.size ∧ b2 < w'.heap.size ∧ Below w.heap.size w w'
theorem Two.open {w W : World} {b1 o1 b2 o2 i p q : Nat} (h : Two w b1 o1 b2 o2 i p q W) :
    W.cell? ⟨b1, o1 + i, none⟩ = some (.int .i64 (p : Int)) ∧ W.cell? ⟨b2, o2 + i, none⟩ = some (.int .i64 (q : Int)) ∧ b1 < W.heap.size ∧ b2 < W.heap.size ∧ Below w.heap.size w W := h
theorem Two.next {w W W' : World} {b1 o1 b2 o2 i p q : Nat} (h : W.cell? ⟨b1, o1 + i, none⟩ = some (.int .i64 (p : Int)) ∧ W.cell? ⟨b2, o2 + i, none⟩ = some (.int .i64 (q : Int)) ∧ b1 < W.heap.size ∧ b2 < W.heap.size ∧ Below w.heap.size w W) (hn : Below W.heap.size W W') :
    W'.cell? ⟨b1, o1 + i, none⟩ = some (.int .i64 (p : Int)) ∧ W'.cell? ⟨b2, o2 + i, none⟩ = some (.int .i64 (q : Int)) ∧ b1 < W'.heap.size ∧ b2 < W'.heap.size ∧ Below w.heap.size w W' := by
  obtain ⟨h1, h2, h3, h4, h5⟩ := h
  exact ⟨(hn.cell (p := ⟨b1, o1 + i, none⟩) h3).trans h1, (hn.cell (p := ⟨b2, o2 + i, none⟩) h4).trans h2, Nat.lt_of_lt_of_le h3 hn.size, Nat.lt_of_lt_of_le h4 hn.size, h5.trans (hn.mono h5.size)⟩
theorem lex_at {S O : List Nat} (h : Lex S O) {i : Nat} (h1 : i < S.length) (h2 : i < O.length) (he : ∀ j (g1 : j < S.length) (g2 : j < O.length), j < i → S[j] = O[j]) (hn : S[i] ≠ O[i]) : S[i] < O[i] := by
  induction S generalizing O i with
  | nil => simp at h1
  | cons s S ih =>
    cases O with
    | nil => simp at h2
    | cons o O =>
      simp only [Lex] at h
      cases i with
      | zero =>
        simp only [List.getElem_cons_zero] at hn ⊢
        rcases h with h | ⟨h, _⟩
        · exact h
        · exact absurd h hn
      | succ i =>
        have h0 := he 0 (by simp) (by simp) (by omega)
        simp only [List.getElem_cons_zero] at h0
        simp only [List.getElem_cons_succ] at hn ⊢
        rcases h with h | ⟨_, h⟩
        · omega
        · exact ih h (by simpa using h1) (by simpa using h2) (fun j g1 g2 hj => by
            have := he (j + 1) (by simpa using g1) (by simpa using g2) (by omega)
            simpa using this) hn
set_option maxRecDepth 100000 in
set_option maxHeartbeats 4000000 in
theorem law4_any {w : World} {A : Option Addr} {c : Nat} {l : List Int} (h : SlI w A c l) (_hR : Rng l) (x : Nat) (_hx : x ≤ 65535) : Calls Try.prog 4 #[.slice A l.length c, .int .u16 x] w (YesB w) := by
  have hle := h.le
  have hmx := h.max
  by_cases hl : 10 < l.length
  · have hl2 : (10 : Int) < (l.length : Int) := by omega
    clear h
    go_enter Try.func4, Try.ntmps4
    go_wp2_with fail
    refine (lives_any w).mono ?_
    rintro e w1 ⟨rfl, hb⟩
    have HB := Lib.hid hb
    clear hb
    go_wp2_with fail
    go_ret
    exact ⟨rfl, HB.out⟩
  have hl2 : (l.length : Int) ≤ 10 := by omega
  have hl3 : l.length ≤ 10 := by omega
  obtain ⟨S, hS⟩ : ∃ S, longR l = S := ⟨_, rfl⟩
  have hlr : lonR l = (nats S, 0) := by unfold lonR; rw [if_neg (by omega), hS]
  have hLg := longR_longest l
  rw [hS] at hLg
  have HLt := Lib.hid (fun (T : List Nat) (h1 : ∀ p ∈ T, p < l.length) (h2 : T.Pairwise fun p q => p < q ∧ ∃ (h : p < l.length) (h' : q < l.length), l[p] < l[q]) => longR_least h1 h2)
  rw [hS] at HLt
  have hSl : S.length ≤ l.length := by rw [hLg.len]; exact top_le l
  have hnl := nats_len S
  have HLg := Lib.hid hLg
  have HL := longest_any h
  rw [hlr] at HL
  have HL := Lib.hid HL
  have HA := Lib.hid h
  have HNL := Lib.hid hnl
  clear h hlr hLg hS hl hnl
  go_enter Try.func4, Try.ntmps4
  go_wp2_with fail
  refine HL.out.mono ?_
  clear HL
  rintro e w1 ⟨A2, rfl, hs, hu⟩
  have hs' := hs
  simp only [HNL.out] at hs' ⊢
  have H := Lib.hid (show L4 w w1 A A2 c l S from ⟨HA.out.next hu, hs', hu⟩)
  clear hs hs' hu HA
  go_wp2_with fail
  go_loopw [7] (fun v wr => ∃ (i m : Nat), i ≤ S.length ∧ v = .int .i64 i ∧ wr = w1.drewN m) (fun v _ => S.length - (intOf v).toNat)
  case atStart => exact ⟨0, 0, Nat.zero_le _, rfl, rfl⟩
  case round =>
    obtain ⟨i, m, hi, rfl, rfl⟩ := hrel
    by_cases hlt : i < S.length
    · obtain ⟨b, o, rfl, _, hc⟩ := H.out.got.rd i (by rw [HNL.out]; exact hlt)
      have hz : (nats S)[i]'(by rw [HNL.out]; exact hlt) = (S[i] : Nat) := by simp [nats]
      rw [hz] at hc
      have hp : S[i] < l.length := HLg.out.lt _ (List.getElem_mem hlt)
      by_cases hpos : ¬ 0 < i
      · clear hz
        generalize S[i] = p at *
        have d1 : decide ((p : Int) < 0) = false := by simp
        have d2 : decide (l.length ≤ p) = false := by simp; omega
        have d3 : decide (0 < i) = false := by simp; omega
        go_upto_region 9 with fail
        go_quiet (fail)
        go_wp2_with fail
        go_roundw
        case rel => exact ⟨i + 1, _, by omega, by go_num, rfl⟩
        case measure => first | (simp [intOf]; done) | (simp [intOf]; omega)
      · obtain ⟨b', o', e2, _, hc2⟩ := H.out.got.rd (i - 1) (by rw [HNL.out]; omega)
        have hz2 : (nats S)[i - 1]'(by rw [HNL.out]; omega) = (S[i - 1] : Nat) := by simp [nats]
        rw [hz2] at hc2
        injection e2 with e2
        injection e2 with e3 e4
        subst e3; subst e4
        have h1 := List.pairwise_iff_getElem.1 HLg.out.up (i - 1) i (by omega) hlt (by omega)
        obtain ⟨g1, g2, h2⟩ := List.pairwise_iff_getElem.1 HLg.out.rise (i - 1) i (by omega) hlt (by omega)
        obtain ⟨b3, o3, rfl, _, hc3⟩ := H.out.arg.rd _ g1
        obtain ⟨b4, o4, e4, _, hc4⟩ := H.out.arg.rd _ g2
        injection e4 with e4
        injection e4 with e5 e6
        subst e5; subst e6
        obtain ⟨y, hy⟩ : ∃ y, l[S[i - 1]] = y := ⟨_, rfl⟩
        obtain ⟨z, hzz⟩ : ∃ z, l[S[i]] = z := ⟨_, rfl⟩
        rw [hy] at h2 hc3
        rw [hzz] at h2 hc4
        clear hz hz2 hy hzz g1 g2
        generalize S[i] = p at *
        generalize S[i - 1] = q at *
        have d1 : decide ((p : Int) < 0) = false := by simp
        have d2 : decide (l.length ≤ p) = false := by simp; omega
        have d3 : decide (0 < i) = true := by simp; omega
        have d4 : decide (p ≤ q) = false := by simp; omega
        have d5 : decide (z ≤ y) = false := by simp; omega
        go_upto_region 9 with fail
        go_quiet (fail)
        go_wp2_with fail
        go_roundw
        case rel => exact ⟨i + 1, _, by omega, by go_num, rfl⟩
        case measure => first | (simp [intOf]; done) | (simp [intOf]; omega)
    · obtain rfl : i = S.length := by omega
      obtain ⟨V, hV⟩ : ∃ V, w1.drewN m = V := ⟨_, rfl⟩
      have HV := Lib.hid (H.out.next (below_drewN w1 m))
      rw [hV] at HV ⊢
      have H0 : Hid (LoI V V (.slice none 0 0) l 0 []) := Lib.hid ⟨own_nil _ _, Rsg.nil l, Below.refl _ _⟩
      clear hV H hlt hi m
      go_wp2_with fail
      go_loopw [8, 9] (fun o v wr => ∃ (i : Nat) (O : List Nat), i ≤ l.length ∧ v = .int .i64 i ∧ Hid (LoI V wr o l i O)) (fun _ v _ => l.length - (intOf v).toNat)
      case atStart => exact ⟨0, [], Nat.zero_le _, rfl, H0⟩
      case round =>
        clear H0
        obtain ⟨i, O, hi, rfl, HI⟩ := hrel
        by_cases hlt : i < l.length
        · obtain ⟨A3, c3, rfl, hs⟩ := HI.out.own.sl
          have hs1 := hs.le
          have hs2 := hs.max
          have hbt : (((x : Int) / 2 ^ i).tmod 2 == 1) = false ∨ (((x : Int) / 2 ^ i).tmod 2 == 1) = true := by
            cases (((x : Int) / 2 ^ i).tmod 2 == 1) <;> simp
          rcases hbt with hbt | hbt
          · have HN := Lib.hid (show LoI V wr (.slice A3 (nats O).length c3) l (i + 1) O from ⟨HI.out.own, HI.out.sub.skip, HI.out.u⟩)
            clear hs HI
            go_wp2_with fail
            go_roundw
            case rel => exact ⟨i + 1, O, by omega, by go_num, HN⟩
            case measure => first | (simp [intOf]; done) | (simp [intOf]; omega)
          · have hOl := HI.out.sub.len
            have hrd := HV.out.arg.rd.below HI.out.u
            obtain ⟨b1, o1, hA1, hb1, c1⟩ := hrd i hlt
            subst hA1
            obtain ⟨z, hz⟩ : ∃ z, l[i] = z := ⟨_, rfl⟩
            rw [hz] at c1
            have HTk := Lib.hid (fun h => HI.out.sub.take hlt h)
            rw [hz] at HTk
            rcases List.eq_nil_or_concat O with rfl | ⟨O', q, rfl⟩
            · have HI2 := Lib.hid (fun nq => own_next (HI.out.drewN nq).own (below_new (wr.drewN nq) (.cells #[.int .i64 (i : Int)] 3)))
              have HBW := Lib.hid (fun nq => (show V.heap.size ≤ (wr.drewN nq).heap.size from HI.out.u.size))
              have HS1 := Lib.hid (fun nq => sl_one (wr.drewN nq) (i : Int))
              have HT2 := Lib.hid (HTk.out (fun z hz => by simp at hz))
              have HU := Lib.hid (fun nq => (HI.out.drewN nq).u)
              have e0 : (nats []).length = 0 := rfl
              rw [e0] at HI2 hs1 ⊢
              clear HTk hrd hs e0 hz HI
              go_upto_region 16 with fail
              go_quiet (fail)
              go_wp2_with (
                at_builtin
                refine wp_app rfl (.tmp 112) (.tmp 114) rfl V.heap.size _ [] rfl _ 1 [(i : Int)] 1 rfl rfl (HI2.out nq) (HS1.out nq) (by simp) (Nat.le_trans (HBW.out nq) (by simp)) ?_
                intro v3 w3 H3 B3 G3)
              have HN := Lib.hid (show LoI V w3 v3 l (i + 1) [i] from ⟨by simpa [nats] using H3.out, HT2.out, (HU.out nq).trans (((below_new (wr.drewN nq) _).mono (HBW.out nq)).trans B3.out)⟩)
              clear H3 B3 G3 HT2 HI2
              go_roundw
              case rel => exact ⟨i + 1, [i], by omega, by go_num, HN⟩
              case measure => first | (simp [intOf]; done) | (simp [intOf]; omega)
            · rw [List.concat_eq_append] at *
              have hql : q < l.length := by have := HI.out.sub.lt q (by simp); omega
              obtain ⟨b2, o2, hA2, _, c2⟩ := hs.rd O'.length (by simp [nats])
              have hz2 : (nats (O' ++ [q]))[O'.length]'(by simp [nats]) = (q : Int) := by simp [nats]
              rw [hz2] at c2
              obtain ⟨b3, o3, hA3, _, cq⟩ := hrd q hql
              injection hA3 with hA3
              injection hA3 with e1 e2
              subst e1; subst e2
              obtain ⟨y, hy⟩ : ∃ y, l[q] = y := ⟨_, rfl⟩
              have HTy := Lib.hid (fun (hyz : y < z) => HTk.out (fun z' hz' => by
                simp at hz'
                subst hz'
                exact ⟨hql, by rw [hy]; exact hyz⟩))
              rw [hy] at cq
              subst hA2
              have HI2 := Lib.hid (fun nq => own_next (HI.out.drewN nq).own (below_new (wr.drewN nq) (.cells #[.int .i64 (i : Int)] 3)))
              have HBW := Lib.hid (fun nq => (show V.heap.size ≤ (wr.drewN nq).heap.size from HI.out.u.size))
              have HS1 := Lib.hid (fun nq => sl_one (wr.drewN nq) (i : Int))
              have HU := Lib.hid (fun nq => (HI.out.drewN nq).u)
              have e0 : (nats (O' ++ [q])).length = O'.length + 1 := by simp [nats]
              have hOl2 : O'.length + 1 ≤ 10 := by simp at hOl; omega
              obtain ⟨n, hn⟩ : ∃ n, O'.length + 1 = n := ⟨_, rfl⟩
              have q1 : decide (0 < n) = true := by simp; omega
              have q2 : IntKind.i64.wrap ((n : Int) - 1) = (O'.length : Int) := by rw [IntWalk.i64_in _ (by omega)]; omega
              have q3 : O'.length < n := by omega
              have q4 : (0 : Int) ≤ (n : Int) - 1 := by omega
              rw [hn] at e0 hOl2
              rw [e0] at HI2 hs1 ⊢
              have HSL := Lib.hid e0
              clear HTk hrd hs e0 hy hz hz2 hn hOl HI
              have sp : (0 : Int) < (S.length : Int) := by
                have h := (HLt.out [i] (by simpa using hlt) (by simp)).1
                simp at h
                omega
              by_cases hyz : z ≤ y
              · have q5 : decide (z ≤ y) = true := by simp; omega
                go_upto_region 16 with fail
                go_quiet (fail)
                clear HTy HI2 HS1 HBW
                go_wp2_with fail
                refine (lives_any _).mono ?_
                rintro e w2 ⟨rfl, hb⟩
                have HB := Lib.hid (HV.out.u.trans (((HU.out nq).mono HV.out.u.size).trans (hb.mono (Nat.le_trans HV.out.u.size (HU.out nq).size))))
                clear hb
                go_wp2_with fail
                go_ret
                exact ⟨rfl, HB.out⟩
              · have q5 : decide (z ≤ y) = false := by simp; omega
                have HT2 := Lib.hid (HTy.out (by omega))
                go_upto_region 16 with fail
                go_quiet (fail)
                go_wp2_with (
                  at_builtin
                  refine wp_app rfl (.tmp 112) (.tmp 114) rfl V.heap.size _ (nats (O' ++ [q])) rfl _ 1 [(i : Int)] 1 rfl rfl (by unfold OwnI; rw [HSL.out]; exact HI2.out nq) (HS1.out nq) (by rw [HSL.out]; simp; omega) (Nat.le_trans (HBW.out nq) (by simp)) ?_
                  intro v3 w3 H3 B3 G3)
                have HN := Lib.hid (show LoI V w3 v3 l (i + 1) ((O' ++ [q]) ++ [i]) from ⟨by have := H3.out; simpa [nats] using this, HT2.out, (HU.out nq).trans (((below_new (wr.drewN nq) _).mono (HBW.out nq)).trans B3.out)⟩)
                clear H3 B3 G3 HT2 HI2
                go_roundw
                case rel => exact ⟨i + 1, (O' ++ [q]) ++ [i], by omega, by go_num, HN⟩
                case measure => first | (simp [intOf]; done) | (simp [intOf]; omega)
        · obtain rfl : i = l.length := by omega
          obtain ⟨A3, c3, rfl, hs⟩ := HI.out.own.sl
          have hs1 := hs.le
          have hs2 := hs.max
          have hno := nats_len O
          have hle := HLt.out O HI.out.sub.lt HI.out.sub.ris
          have hbw := HI.out.u
          have HG := Lib.hid (show _ ∧ _ from ⟨HV.out.next (hbw.mono (Nat.le_refl _)), hs⟩)
          have HNO := Lib.hid hno
          rw [hno] at hs1 ⊢
          clear hs hno HI hbw hlt hi
          by_cases hOS : O.length = S.length
          · have HX := Lib.hid (hle.2 hOS)
            have HOS := Lib.hid hOS
            have hb1 : (O.length == S.length) = true := by simpa using hOS
            clear hle hOS
            go_wp2_with fail
            go_loopw [10] (fun v wk => ∃ (i m : Nat), i ≤ S.length ∧ v = .int .i64 i ∧ Hid (∀ j (g1 : j < S.length) (g2 : j < O.length), j < i → S[j] = O[j]) ∧ wk = wr.drewN m) (fun v _ => S.length - (intOf v).toNat)
            case atStart => exact ⟨0, 0, Nat.zero_le _, rfl, Lib.hid (fun j _ _ h => absurd h (Nat.not_lt_zero _)), rfl⟩
            case round =>
              obtain ⟨i, m, hi, rfl, HE, rfl⟩ := hrel
              by_cases hlt : i < S.length
              · have hlo : i < O.length := by rw [HOS.out]; exact hlt
                obtain ⟨b1, o1, rfl, hb1, k1⟩ := HG.out.1.got.rd i (by rw [HNL.out]; exact hlt)
                obtain ⟨b2, o2, rfl, hb2, k2⟩ := HG.out.2.rd i (by rw [HNO.out]; exact hlo)
                have hz1 : (nats S)[i]'(by rw [HNL.out]; exact hlt) = (S[i] : Nat) := by simp [nats]
                have hz2 : (nats O)[i]'(by rw [HNO.out]; exact hlo) = (O[i] : Nat) := by simp [nats]
                rw [hz1] at k1
                rw [hz2] at k2
                have HP := Lib.hid (fun hn => lex_at HX.out hlt hlo HE.out hn)
                have HN := Lib.hid (fun (e : S[i] = O[i]) => (show ∀ j (g1 : j < S.length) (g2 : j < O.length), j < i + 1 → S[j] = O[j] from fun j g1 g2 hj => by
                  rcases Nat.lt_succ_iff_lt_or_eq.1 hj with h2 | rfl
                  · exact HE.out j g1 g2 h2
                  · exact e))
                clear hz1 hz2
                obtain ⟨p, hp⟩ : ∃ p, S[i] = p := ⟨_, rfl⟩
                obtain ⟨q, hq⟩ : ∃ q, O[i] = q := ⟨_, rfl⟩
                simp only [hp] at k1 HP HN
                simp only [hq] at k2 HP HN
                by_cases hpq : p = q
                · have HN2 := Lib.hid (HN.out hpq)
                  subst hpq
                  clear HP HN hp hq
                  go_upto_region 24 with fail
                  go_quiet (fail)
                  go_wp2_with fail
                  go_roundw
                  case rel => exact ⟨i + 1, _, by omega, by go_num, HN2, rfl⟩
                  case measure => first | (simp [intOf]; done) | (simp [intOf]; omega)
                · have hlp := HP.out hpq
                  have e1 : ((p : Int) != (q : Int)) = true := by simp; omega
                  have e2 : (p != q) = true := by simp; omega
                  have e3 : decide (p < q) = true := by simp; omega
                  have e4 : (p == q) = false := by simp; omega
                  clear HP HN hp hq HE hpq
                  go_upto_region 24 with fail
                  go_quiet (fail)
                  have HK : Hid (Two w b1 o1 b2 o2 i p q (((wr.drewN m).drewN nq).drew)) := Lib.hid ⟨k1, k2, hb1, hb2, (HG.out.1.u.trans ((below_drewN wr m).mono HG.out.1.u.size)).trans (((below_drewN (wr.drewN m) nq).mono HG.out.1.u.size).drew)⟩
                  clear k1 k2
                  go_upto_region 25 with fail
                  generalize (wr.drewN m).drewN nq = W0 at *
                  go_region_held3 (fun w' => w'.cell? ⟨b1, o1 + i, none⟩ = some (.int .i64 (p : Int)) ∧ w'.cell? ⟨b2, o2 + i, none⟩ = some (.int .i64 (q : Int)) ∧ b1 < w'.heap.size ∧ b2 < w'.heap.size ∧ Below w.heap.size w w')
                    (first
                      | with_reducible exact Two.open HK.out
                      | with_reducible exact Two.next (by assumption) k3
                      | go_keep)
                    (first | (go_at_call 9; (with_reducible refine (lives_any _).mono ?_); rintro e w9 ⟨rfl, k3⟩))
                  have HB := Lib.hid (‹_ ∧ _ ∧ _ ∧ _ ∧ Below w.heap.size w _›).2.2.2.2
                  clear HK k3
                  go_wp2_with fail
                  go_ret
                  exact ⟨rfl, HB.out⟩
              · obtain rfl : i = S.length := by omega
                have HU := Lib.hid (HG.out.1.u.trans ((below_drewN wr m).mono HG.out.1.u.size))
                clear HG HE
                go_wp2_with fail
                refine (lives_any _).mono ?_
                rintro e w2 ⟨rfl, hb⟩
                have HB := Lib.hid (HU.out.trans (hb.mono HU.out.size))
                clear hb
                go_wp2_with fail
                go_ret
                exact ⟨rfl, HB.out⟩
          · have hb1 : (O.length == S.length) = false := by simpa using hOS
            have hb2 : (O.length : Int) < (S.length : Int) := by omega
            have HU := Lib.hid HG.out.1.u
            clear hle hOS HG
            go_wp2_with fail
            refine (lives_any _).mono ?_
            rintro e w2 ⟨rfl, hb⟩
            have HB := Lib.hid (HU.out.trans (hb.mono HU.out.size))
            clear hb
            go_wp2_with fail
            go_ret
            exact ⟨rfl, HB.out⟩
end Go.Proofs.Ytejgcpohdbiaoaa
