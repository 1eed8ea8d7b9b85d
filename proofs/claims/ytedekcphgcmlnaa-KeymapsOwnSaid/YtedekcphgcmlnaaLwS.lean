/- The walk of the law KeymapsScript. -/
import Derived.Test.YtedekcphgcmlnaaLwG
namespace Go.Proofs.Ytedekcphgcmlnaa
open Go.RowKit

theorem has_cases (L : PL) (k : Int) : (hasK L k = true ∧ ∃ i q, atI L k = i ∧ valK L k = q ∧ ∃ hl : i < L.length, L[i].2 = q) ∨ (hasK L k = false ∧ valK L k = 0) := by
  cases hh : hasK L k with
  | true =>
    obtain ⟨hl, he⟩ := val_at hh
    exact .inl ⟨rfl, _, _, rfl, rfl, hl, he⟩
  | false => exact .inr ⟨rfl, val_no hh⟩
theorem SlR.fr {w w' : World} {A : Option Addr} {c b s : Nat} {L : PL} (h : SlR w A c L) (hf : Fr w w' b s) (ha : ∀ a, A = some a → a.block ≠ b ∧ a.block ≠ s) : SlR w' A c L :=
  ⟨fun k hk => by
    obtain ⟨b0, o, e, h1, h2, h3⟩ := h.rd k hk
    obtain ⟨n1, n2⟩ := ha _ e
    have hb := hf.block b0 h1 n1 n2
    refine ⟨b0, o, e, Nat.lt_of_lt_of_le h1 hf.size, ?_, ?_⟩
    · rw [← h2]; exact World.cell?_of_block (w := w) hb
    · rw [← h3]; exact World.cell?_of_block (w := w) hb, h.le, h.max, h.nil⟩
/-- the law's memory: a map with the pairs L, beside it a list L' -/
structure ScI (w wr : World) (b : Nat) (L : PL) (M : Nat) (A : Option Addr) (c : Nat) (L' : PL) : Prop where
  ex : ∃ s S, Mp wr b s S ∧ Good S L M ∧ w.heap.size ≤ b ∧ w.heap.size ≤ s ∧ s < wr.heap.size ∧ (∀ a, A = some a → a.block < wr.heap.size ∧ a.block ≠ b ∧ a.block ≠ s)
  u : Below w.heap.size w wr
  sl : SlR wr A c L'
theorem ScI.next {w wr w' : World} {b M c : Nat} {A : Option Addr} {L L' : PL} (h : ScI w wr b L M A c L') (hb : Below wr.heap.size wr w') : ScI w w' b L M A c L' := by
  obtain ⟨s, S, h1, h2, h3, h4, h6, h5⟩ := h.ex
  exact ⟨⟨s, S, h1.next hb, h2, h3, h4, Nat.lt_of_lt_of_le h6 hb.size, fun a ha => ⟨Nat.lt_of_lt_of_le (h5 a ha).1 hb.size, (h5 a ha).2⟩⟩, h.u.trans (hb.mono h.u.size), h.sl.below hb⟩
theorem ScI.more {w wr : World} {b M N c : Nat} {A : Option Addr} {L L' : PL} (h : ScI w wr b L M A c L') (hN : M ≤ N) : ScI w wr b L N A c L' := by
  obtain ⟨s, S, h1, h2, h3⟩ := h.ex
  exact ⟨⟨s, S, h1, h2.more hN, h3⟩, h.u, h.sl⟩
theorem ScI.cnt {w wr : World} {b M c : Nat} {A : Option Addr} {L L' : PL} (h : ScI w wr b L M A c L') : L.length ≤ M := by
  obtain ⟨s, S, _, h2, _⟩ := h.ex
  exact h2.cnt
theorem ScI.ref {w wr w' : World} {b M c : Nat} {A : Option Addr} {L L' L2 : PL} {v : Value} {e : Ending} (h : ScI w wr b L M A c L') (hr : RowP A L2 v wr e w') :
    ∃ A2 c2, e = .returned (.tuple #[.slice A2 L2.length c2, v]) ∧ ScI w w' b L M A2 c2 L2 ∧ Below wr.heap.size wr w' := by
  obtain ⟨A2, c2, he, hs, hb, hA⟩ := hr
  obtain ⟨s, S, h1, h2, h3, h4, h6, h5⟩ := h.ex
  have hb1 := h1.lt
  have hsz := hb.size
  refine ⟨A2, c2, he, ⟨⟨s, S, h1.next hb, h2, h3, h4, by omega, fun a ha => ?_⟩, h.u.trans (hb.mono h.u.size), hs⟩, hb⟩
  rcases hA with rfl | hA
  · exact ⟨Nat.lt_of_lt_of_le (h5 a ha).1 hsz, (h5 a ha).2⟩
  · obtain ⟨q1, q2⟩ := hA a ha
    exact ⟨q2, by omega, by omega⟩
theorem ScI.get {w wr : World} {b M c : Nat} {A : Option Addr} {L L' : PL} (h : ScI w wr b L M A c L') (k : Int) :
    Calls Try.prog 15 #[.pointer (some ⟨b, 0, none⟩), .int .u64 k] wr fun e w' => e = .returned (.tuple #[.int .i64 (valK L k), .bool (hasK L k)]) ∧ Below wr.heap.size wr w' := by
  obtain ⟨s, S, h1, h2, _⟩ := h.ex
  exact get_any h1 h2 k
theorem Mp.nils {w : World} {b s : Nat} (h : Mp w b s []) (s2 : Nat) : Mp w b s2 [] := ⟨by
  obtain ⟨A, c, h1, h2, _⟩ := h.obj
  exact ⟨A, c, h1, h2, fun e => absurd rfl e⟩, fun e => absurd rfl e⟩
theorem ScI.drop {w wr : World} {b M c : Nat} {A : Option Addr} {L L' : PL} (h : ScI w wr b L M A c L') (k : Int) :
    Calls Try.prog 12 #[.pointer (some ⟨b, 0, none⟩), .int .u64 k] wr fun e w' => e = .returned (.bool (dropL L k).2) ∧ ScI w w' b (dropL L k).1 M A c L' := by
  obtain ⟨s, S, h1, h2, h3, h4, h6, h5⟩ := h.ex
  refine (drop_any h1 h2 k).mono ?_
  rintro e w' ⟨rfl, hF, S', q1, q2⟩
  have hsz := hF.size
  exact ⟨rfl, ⟨s, S', q1, q2, h3, h4, by omega, fun a ha => ⟨Nat.lt_of_lt_of_le (h5 a ha).1 hsz, (h5 a ha).2⟩⟩, h.u.trans (hF.below h3 h4 h.u.size), h.sl.fr hF (fun a ha => (h5 a ha).2)⟩
theorem ScI.put {w wr : World} {b M c : Nat} {A : Option Addr} {L L' : PL} (h : ScI w wr b L M A c L') (k v : Int) :
    Calls Try.prog 14 #[.pointer (some ⟨b, 0, none⟩), .int .u64 k, .int .i64 v] wr fun e w' => e = .returned (.int .i64 (putL L k v).2) ∧ ScI w w' b (putL L k v).1 (max M (putL L k v).1.length) A c L' := by
  obtain ⟨s, S, h1, h2, h3, h4, h6, h5⟩ := h.ex
  refine (put_any h1 h2 k v).mono ?_
  rintro e w' ⟨rfl, hF, s', S', q1, q2, q3⟩
  have hsz := hF.size
  have hu := h.u.size
  have hbl := h1.lt
  refine ⟨rfl, ?_, h.u.trans (hF.below h3 h4 h.u.size), h.sl.fr hF (fun a ha => (h5 a ha).2)⟩
  by_cases hS : S' = []
  · subst hS
    exact ⟨b, [], q1.nils b, q2, h3, h3, by omega, fun a ha => ⟨Nat.lt_of_lt_of_le (h5 a ha).1 hsz, (h5 a ha).2.1, (h5 a ha).2.1⟩⟩
  · have hl := (q1.row hS).1.lt
    refine ⟨s', S', q1, q2, h3, by omega, hl, fun a ha => ⟨Nat.lt_of_lt_of_le (h5 a ha).1 hsz, (h5 a ha).2.1, ?_⟩⟩
    have e1 := (h5 a ha).1
    have e2 := (h5 a ha).2.2
    omega
theorem ScI.same {N : Nat} (hS : SortU N) {w wr : World} {b M c most : Nat} {A : Option Addr} {L : PL} (h : ScI w wr b L M A c L) (hN : L.length ≤ N) (hm : M ≤ most) (hm2 : most ≤ 100000) :
    Calls Try.prog 17 #[.pointer (some ⟨b, 0, none⟩), .slice A L.length c, .int .i64 most] wr (Yes wr) := by
  obtain ⟨s, S, h1, h2, _⟩ := h.ex
  exact same_any hS h1 h2 hN h.sl hm hm2
set_option maxRecDepth 100000 in
set_option maxHeartbeats 16000000 in
theorem lawS_any (hS : SortU 80) {w : World} {A0 : Option Addr} {c0 : Nat} {xs : List St} (h : SlT w A0 c0 xs) :
    Calls Try.prog 3 #[.slice A0 xs.length c0] w (Yes w) := by
  have HLv := Lib.hid (fun w => lives_any hS (by omega) w)
  have HS := Lib.hid hS
  have HX := Lib.hid h
  have hle := h.le
  have hmx := h.max
  have hn := Lib.hid (new_any w)
  clear h hS
  by_cases hlong : 80 < xs.length
  · have z : (80 : Int) < (xs.length : Int) := by omega
    go_enter Try.func3, Try.ntmps3
    go_wp2_with fail
    refine (HLv.out _).mono ?_
    rintro e w1 ⟨rfl, hb⟩
    have HB := Lib.hid hb
    clear hb
    go_wp2_with fail
    go_ret
    exact ⟨rfl, HB.out⟩
  have z : ¬ ((80 : Int) < (xs.length : Int)) := by omega
  go_enter Try.func3, Try.ntmps3
  go_wp2_with fail
  refine hn.out.mono ?_
  rintro e W1 ⟨rfl, hm, hb⟩
  have H0 : Hid (ScI w W1 w.heap.size [] 0 none 0 []) := Lib.hid ⟨⟨w.heap.size, [], hm, good_nil 0, Nat.le_refl _, Nat.le_refl _, hm.lt, fun a ha => by cases ha⟩, hb, SlR.none W1⟩
  obtain ⟨b, hbb⟩ : ∃ b : Nat, w.heap.size = b := ⟨_, rfl⟩
  rw [hbb] at H0 ⊢
  have ST : Hid (∀ W, Below w.heap.size w W → ∀ i, (hi : i < xs.length) → ∃ bb o, A0 = some ⟨bb, o, none⟩ ∧ bb < w.heap.size ∧ W.cell? ⟨bb, o + i * 3, none⟩ = some (.int .u64 xs[i].key) ∧ W.cell? ⟨bb, o + i * 3 + 1, none⟩ = some (.int .i64 xs[i].v) ∧ W.cell? ⟨bb, o + i * 3 + 2, none⟩ = some (.bool xs[i].drop)) := Lib.hid (fun W hW i hi => HX.out.rd.below hW i hi)
  clear hm hb hn hbb
  go_wp2_with fail
  go_loopw [4, 5, 6] (fun o mv v wr => ∃ (i M : Nat) (L : PL) (A : Option Addr) (c : Nat), o = .slice A L.length c ∧ mv = .int .i64 M ∧ v = .int .i64 i ∧ i ≤ xs.length ∧ M ≤ i ∧ L.length ≤ i ∧ Hid (ScI w wr b L M A c L)) (fun _ _ v _ => xs.length - (intOf v).toNat)
  case atStart => exact ⟨0, 0, [], none, 0, rfl, rfl, rfl, Nat.zero_le _, Nat.zero_le _, Nat.zero_le _, H0⟩
  case round =>
    clear H0
    obtain ⟨i, M, L, A, c, rfl, rfl, rfl, hi, hM, hLi, HI⟩ := hrel
    by_cases hlt : i < xs.length
    · have hlt2 : (i : Int) < (xs.length : Int) := by omega
      obtain ⟨bb, o, rfl, hbb, a0, a1, a2⟩ := ST.out wr HI.out.u i hlt
      obtain ⟨k, hk⟩ : ∃ k, xs[i].key = k := ⟨_, rfl⟩
      obtain ⟨v, hv⟩ : ∃ v, xs[i].v = v := ⟨_, rfl⟩
      obtain ⟨f, hf⟩ : ∃ f, xs[i].drop = f := ⟨_, rfl⟩
      replace ST : Hid (∀ W, Below w.heap.size w W → W.cell? ⟨bb, o + i * 3, none⟩ = some (.int .u64 k) ∧ W.cell? ⟨bb, o + i * 3 + 1, none⟩ = some (.int .i64 v) ∧ W.cell? ⟨bb, o + i * 3 + 2, none⟩ = some (.bool f)) := Lib.hid (fun W hW => by
        obtain ⟨bb', o', e, _, e1, e2, e3⟩ := ST.out W hW i hlt
        injection e with e
        injection e with e4 e5
        subst e4; subst e5
        rw [← hk, ← hv, ← hf]
        exact ⟨e1, e2, e3⟩)
      rw [hk] at a0
      rw [hv] at a1
      rw [hf] at a2
      clear hk hv hf
      cases f with
      | true =>
        obtain ⟨L2, was, hd⟩ : ∃ L2 was, dropL L k = (L2, was) := ⟨_, _, rfl⟩
        have hdl := drop_len L k
        have R1 := refDrop_any HI.out.sl k (by omega)
        have D1 := Lib.hid (fun W A' c' L' (h : ScI w W b L M A' c' L') => h.drop k)
        rw [hd] at hdl R1 D1
        have HR1 := Lib.hid R1
        replace hdl : L2.length ≤ L.length := hdl
        clear R1 hd
        go_wp2_with fail
        refine HR1.out.mono ?_
        intro e W2 hr
        obtain ⟨A2, c2, rfl, h2x, hb2⟩ := HI.out.ref hr
        have H2 := Lib.hid h2x
        obtain ⟨a0', a1', a2'⟩ := ST.out W2 h2x.u
        have C2 := Lib.hid (D1.out W2 A2 c2 L2 h2x)
        clear hr hb2 h2x HR1 HI a0 a1 a2 D1
        go_wp2_with fail
        refine C2.out.mono ?_
        rintro e W4 ⟨rfl, h4x⟩
        replace h4x : ScI w W4 b L2 (max M L2.length) A2 c2 L2 := ScI.more (show ScI w W4 b L2 M A2 c2 L2 from h4x) (Nat.le_max_left _ _)
        clear C2 H2 a0' a1' a2'
        obtain ⟨M2, hM2a⟩ : ∃ M2 : Nat, M2 = max M L2.length := ⟨_, rfl⟩
        obtain ⟨mx, hM2, hmx2⟩ : ∃ mx : Int, (if M < L2.length then (L2.length : Int) else (M : Int)) = mx ∧ mx = (M2 : Int) := ⟨_, rfl, by split <;> omega⟩
        have HMX := Lib.hid hmx2
        rw [← hM2a] at h4x
        have H4 := Lib.hid h4x
        have y0 := ST.out W4 h4x.u
        have hM2b : M2 ≤ i + 1 := by omega
        have G5 : Hid (∀ f q, hasK L2 k = f → valK L2 k = q → Calls Try.prog 15 #[.pointer (some ⟨b, 0, none⟩), .int .u64 k] W4 fun e w' => e = .returned (.tuple #[.int .i64 q, .bool f]) ∧ Below W4.heap.size W4 w') := Lib.hid (fun f q h1 h2 => by
          rw [← h1, ← h2]
          exact H4.out.get k)
        have G6 : Hid (∀ W f i, hasK L2 k = f → atI L2 k = i → SlR W A2 c2 L2 → Calls Try.prog 16 #[.slice A2 L2.length c2, .int .u64 k] W fun e w' => e = .returned (.tuple #[.int .i64 i, .bool f]) ∧ ∃ m, w' = W.drewN m) := Lib.hid (fun W f i h1 h2 hs => by
          rw [← h1, ← h2]
          exact refAt_any c2 hs.rd k (by omega))
        clear h4x hM2a hmx2
        rcases has_cases L2 k with ⟨hf, i1, q1, hi1e, hq, hil, hiq⟩ | ⟨hf, hq⟩
        · have C5 := Lib.hid (G5.out _ _ hf hq)
          have C6 := Lib.hid (fun W => G6.out W true i1 hf hi1e)
          have HQ := Lib.hid (fun W (hs : SlR W A2 c2 L2) => (show ∃ b0 o, A2 = some ⟨b0, o, none⟩ ∧ W.cell? ⟨b0, o + i1 * 2 + 1, none⟩ = some (.int .i64 q1) from by
            obtain ⟨b0, o, e, _, _, e2⟩ := hs.rd i1 hil
            exact ⟨b0, o, e, by rw [e2, hiq]⟩))
          have hilc : i1 < L2.length := hil
          clear G5 G6 hf hi1e hq hiq hil
          go_wp2_with fail
          refine C5.out.mono ?_
          rintro e W5 ⟨rfl, hb5⟩
          have H5 := Lib.hid (H4.out.next hb5)
          have z0 := ST.out W5 (H5.out.u)
          have C7 := Lib.hid (C6.out W5 H5.out.sl)
          clear hb5 C5 C6 H4 y0
          go_wp2_with fail
          refine C7.out.mono ?_
          rintro e W6 ⟨rfl, m, hw6⟩
          have H6 := Lib.hid (H5.out.next (show Below W5.heap.size W5 W6 by rw [hw6]; exact below_drewN W5 m))
          obtain ⟨b0, o0, hA2, hv⟩ := HQ.out W6 H6.out.sl
          have hle2 := H6.out.sl.le
          subst hA2
          clear hw6 C7 H5 HQ z0
          go_wp2_with fail
          go_roundw
          case rel => exact ⟨i + 1, M2, L2, _, c2, rfl, by rw [HMX.out], by rfl, by omega, by omega, by omega, H6⟩
          case measure => simp [intOf]; omega
        · have C5 := Lib.hid (G5.out _ _ hf hq)
          have C6 := Lib.hid (fun W => G6.out W false (atI L2 k) hf rfl)
          clear G5 G6 hf hq
          go_wp2_with fail
          refine C5.out.mono ?_
          rintro e W5 ⟨rfl, hb5⟩
          have H5 := Lib.hid (H4.out.next hb5)
          have z0 := ST.out W5 (H5.out.u)
          have C7 := Lib.hid (C6.out W5 H5.out.sl)
          clear hb5 C5 C6 H4 y0
          go_wp2_with fail
          refine C7.out.mono ?_
          rintro e W6 ⟨rfl, m, hw6⟩
          have H6 := Lib.hid (H5.out.next (show Below W5.heap.size W5 W6 by rw [hw6]; exact below_drewN W5 m))
          clear hw6 C7 H5 z0
          go_wp2_with fail
          go_roundw
          case rel => exact ⟨i + 1, M2, L2, _, c2, rfl, by rw [HMX.out], by rfl, by omega, by omega, by omega, H6⟩
          case measure => simp [intOf]; omega
      | false =>
        obtain ⟨L2, er, hd⟩ : ∃ L2 er, putL L k v = (L2, er) := ⟨_, _, rfl⟩
        have hdl := put_len L k v
        have R1 := refPut_any (w := wr.drew) (HI.out.sl.below (below_drewN wr 1)) k v (by omega)
        have D1 := Lib.hid (fun W A' c' L' (h : ScI w W b L M A' c' L') => h.put k v)
        rw [hd] at hdl R1 D1
        have HR1 := Lib.hid R1
        replace hdl : L2.length ≤ L.length + 1 := hdl
        have HID := HI.out.next (below_drewN wr 1)
        have HID2 : Hid (ScI w wr.drew b L M A c L) := Lib.hid HID
        clear R1 hd HID
        go_upto_region 14 with fail
        go_region_held3 (fun U => U.cell? ⟨bb, o + i * 3, none⟩ = some (.int .u64 k) ∧ U.cell? ⟨bb, o + i * 3 + 1, none⟩ = some (.int .i64 v))
          (first
            | exact ⟨a0, a1⟩
            | exact ⟨(ST.out _ h2x.u).1, (ST.out _ h2x.u).2.1⟩
            | fail)
          (first | (go_at_call 13; (with_reducible refine HR1.out.mono ?_); intro e W2 hr; obtain ⟨A2, c2, he, h2x, hb2⟩ := HID2.out.ref hr; subst he) | fail)
        all_goals
          have H2 := Lib.hid h2x
          have C2 := Lib.hid (D1.out W2.drew A2 c2 L2 (h2x.next (below_drewN W2 1)))
          obtain ⟨b0', b1', b2'⟩ := ST.out W2 h2x.u
          clear hr hb2 h2x HR1 HI HID2 a0 a1 a2 D1
          go_upto_region 15 with fail
          go_region_held3 (fun U => U.cell? ⟨bb, o + i * 3, none⟩ = some (.int .u64 k) ∧ U.cell? ⟨bb, o + i * 3 + 1, none⟩ = some (.int .i64 v))
            (first
              | exact ⟨b0', b1'⟩
              | exact ⟨(ST.out _ h4x.u).1, (ST.out _ h4x.u).2.1⟩
              | fail)
            (first | (go_at_call 14; (with_reducible refine C2.out.mono ?_); rintro e W4 ⟨rfl, h4x⟩) | fail)
          all_goals
            replace h4x : ScI w W4 b L2 (max M L2.length) A2 c2 L2 := h4x
            clear C2 H2 b0' b1' b2'
            obtain ⟨M2, hM2a⟩ : ∃ M2 : Nat, M2 = max M L2.length := ⟨_, rfl⟩
            obtain ⟨mx, hM2, hmx2⟩ : ∃ mx : Int, (if M < L2.length then (L2.length : Int) else (M : Int)) = mx ∧ mx = (M2 : Int) := ⟨_, rfl, by split <;> omega⟩
            have HMX := Lib.hid hmx2
            rw [← hM2a] at h4x
            have H4 := Lib.hid h4x
            have y0 := ST.out W4 h4x.u
            have hM2b : M2 ≤ i + 1 := by omega
            have G5 : Hid (∀ f q, hasK L2 k = f → valK L2 k = q → Calls Try.prog 15 #[.pointer (some ⟨b, 0, none⟩), .int .u64 k] W4 fun e w' => e = .returned (.tuple #[.int .i64 q, .bool f]) ∧ Below W4.heap.size W4 w') := Lib.hid (fun f q h1 h2 => by
              rw [← h1, ← h2]
              exact H4.out.get k)
            have G6 : Hid (∀ W f i, hasK L2 k = f → atI L2 k = i → SlR W A2 c2 L2 → Calls Try.prog 16 #[.slice A2 L2.length c2, .int .u64 k] W fun e w' => e = .returned (.tuple #[.int .i64 i, .bool f]) ∧ ∃ m, w' = W.drewN m) := Lib.hid (fun W f i h1 h2 hs => by
              rw [← h1, ← h2]
              exact refAt_any c2 hs.rd k (by omega))
            clear h4x hM2a hmx2
            rcases has_cases L2 k with ⟨hf, i1, q1, hi1e, hq, hil, hiq⟩ | ⟨hf, hq⟩
            · have C5 := Lib.hid (G5.out _ _ hf hq)
              have C6 := Lib.hid (fun W => G6.out W true i1 hf hi1e)
              have HQ := Lib.hid (fun W (hs : SlR W A2 c2 L2) => (show ∃ b0 o, A2 = some ⟨b0, o, none⟩ ∧ W.cell? ⟨b0, o + i1 * 2 + 1, none⟩ = some (.int .i64 q1) from by
                obtain ⟨b0, o, e, _, _, e2⟩ := hs.rd i1 hil
                exact ⟨b0, o, e, by rw [e2, hiq]⟩))
              have hilc : i1 < L2.length := hil
              clear G5 G6 hf hi1e hq hiq hil
              go_wp2_with fail
              refine C5.out.mono ?_
              rintro e W5 ⟨rfl, hb5⟩
              have H5 := Lib.hid (H4.out.next hb5)
              have z0 := ST.out W5 (H5.out.u)
              have C7 := Lib.hid (C6.out W5 H5.out.sl)
              clear hb5 C5 C6 H4 y0
              go_wp2_with fail
              refine C7.out.mono ?_
              rintro e W6 ⟨rfl, m, hw6⟩
              have H6 := Lib.hid (H5.out.next (show Below W5.heap.size W5 W6 by rw [hw6]; exact below_drewN W5 m))
              obtain ⟨b0, o0, hA2, hv⟩ := HQ.out W6 H6.out.sl
              have hle2 := H6.out.sl.le
              subst hA2
              clear hw6 C7 H5 HQ z0
              go_wp2_with fail
              go_roundw
              case rel => exact ⟨i + 1, M2, L2, _, c2, rfl, by rw [HMX.out], by rfl, by omega, by omega, by omega, H6⟩
              case measure => simp [intOf]; omega
            · have C5 := Lib.hid (G5.out _ _ hf hq)
              have C6 := Lib.hid (fun W => G6.out W false (atI L2 k) hf rfl)
              clear G5 G6 hf hq
              go_wp2_with fail
              refine C5.out.mono ?_
              rintro e W5 ⟨rfl, hb5⟩
              have H5 := Lib.hid (H4.out.next hb5)
              have z0 := ST.out W5 (H5.out.u)
              have C7 := Lib.hid (C6.out W5 H5.out.sl)
              clear hb5 C5 C6 H4 y0
              go_wp2_with fail
              refine C7.out.mono ?_
              rintro e W6 ⟨rfl, m, hw6⟩
              have H6 := Lib.hid (H5.out.next (show Below W5.heap.size W5 W6 by rw [hw6]; exact below_drewN W5 m))
              clear hw6 C7 H5 z0
              go_wp2_with fail
              go_roundw
              case rel => exact ⟨i + 1, M2, L2, _, c2, rfl, by rw [HMX.out], by rfl, by omega, by omega, by omega, H6⟩
              case measure => simp [intOf]; omega
    · have hlt2 : ¬ ((i : Int) < (xs.length : Int)) := by omega
      have C1 := Lib.hid (HI.out.same HS.out (by omega) (Nat.le_refl M) (by omega))
      go_wp2_with fail
      refine C1.out.mono ?_
      rintro e W2 ⟨rfl, hb2⟩
      have H2 := Lib.hid (HI.out.next hb2)
      clear hb2 C1 HI
      go_wp2_with fail
      refine (HLv.out _).mono ?_
      rintro e W3 ⟨rfl, hb3⟩
      have H3 := Lib.hid (H2.out.next hb3).u
      clear hb3 H2
      go_wp2_with fail
      go_ret
      exact ⟨rfl, H3.out⟩
end Go.Proofs.Ytedekcphgcmlnaa
