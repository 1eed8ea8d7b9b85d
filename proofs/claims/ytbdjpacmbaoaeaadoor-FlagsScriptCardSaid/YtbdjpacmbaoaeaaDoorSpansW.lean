/- The walk of Spans. -/
import Derived.Test.YtbdjpacmbaoaeaaDoorNextT
import Derived.Test.YtbdjpacmbaoaeaaDoorNextF
import Derived.Test.YtbdjpacmbaoaeaaDoorSMarks
import Derived.Test.YtbdjpacmbaoaeaaDoorSResW
namespace Go.Proofs.YtbdjpacmbaoaeaaDoor
open Go.RowKit S

theorem next_any {w : World} {b : Nat} {l : List Bool} (h : Fl w b l) (hT : Tab w) (i : Nat) (hi : i ≤ l.length) (v : Bool) : Calls Tryd.prog 16 #[.pointer (some ⟨b, 0, none⟩), .int .i64 i, .bool v] w fun e w' => ∃ r, e = .returned (nxPair r) ∧ IsNx l i v r ∧ w = w' := by
  cases v
  · exact next_false h hT i hi
  · exact next_true h hT i hi
theorem mkd_none {l : List Bool} {i : Nat} (h : l[i]? ≠ some true) : mkd l (i : Int) = false := by
  unfold mkd
  rw [decide_eq_true (Int.natCast_nonneg i), Int.toNat_natCast, List.getD_eq_getElem?_getD]
  cases hv : l[i]? with
  | none => rfl
  | some b => cases b with
    | true => exact absurd hv h
    | false => rfl
theorem mkd_some {l : List Bool} {i : Nat} (h : l[i]? = some true) : mkd l (i : Int) = true := by
  unfold mkd
  rw [decide_eq_true (Int.natCast_nonneg i), Int.toNat_natCast, List.getD_eq_getElem?_getD, h]
  rfl
theorem OfM_gap {l : List Bool} {q q' : Nat} {out : List Sp} (h : OfM l q out) (hq : q ≤ q') (hn : ∀ i, q ≤ i → i < q' → l[i]? ≠ some true) : OfM l q' out :=
  ⟨h.vo, fun i => by
    rw [h.ho i]
    by_cases h1 : i < (q : Int)
    · rw [decide_eq_true h1, decide_eq_true (show i < (q' : Int) by omega)]
    · rw [decide_eq_false h1]
      by_cases h2 : i < (q' : Int)
      · obtain ⟨j, rfl⟩ : ∃ j : Nat, i = (j : Int) := ⟨i.toNat, by omega⟩
        rw [mkd_none (hn j (by omega) (by omega))]
        simp
      · rw [decide_eq_false h2], by have := h.last; omega⟩
theorem OfM_span {l : List Bool} {p q : Nat} {out : List Sp} (h : OfM l p out) (he : endOf (-1) out < p) (hpq : p < q) (hq : q ≤ 1073741824) (ht : ∀ i, p ≤ i → i < q → l[i]? = some true) : OfM l q (out ++ [((p : Int), (q : Int))]) :=
  ⟨val_snoc.2 ⟨h.vo, he, by show (p : Int) < q; omega, by show (q : Int) ≤ 1073741824; omega⟩, fun i => by
    rw [hasB_app, hasB_one, h.ho i]
    by_cases h1 : i < (p : Int)
    · rw [decide_eq_true h1, decide_eq_true (show i < (q : Int) by omega), decide_eq_false (p := (p : Int) ≤ i ∧ i < (q : Int)) (by omega)]
      simp
    · rw [decide_eq_false h1]
      by_cases h2 : i < (q : Int)
      · obtain ⟨j, rfl⟩ : ∃ j : Nat, i = (j : Int) := ⟨i.toNat, by omega⟩
        rw [mkd_some (ht j (by omega) (by omega)), decide_eq_true h2, decide_eq_true (p := (p : Int) ≤ (j : Int) ∧ (j : Int) < (q : Int)) (by omega)]
        rfl
      · rw [decide_eq_false h2, decide_eq_false (p := (p : Int) ≤ i ∧ i < (q : Int)) (by omega)]
        rfl, by rw [endOf_snoc]; exact Int.le_refl _⟩
/-- between two spans: what Next has answered -/
def SpI (l : List Bool) (out : List Sp) (u4 u5 : Value) : Prop :=
  (∃ p : Nat, u4 = .int .i64 p ∧ u5 = .int .i64 0 ∧ OfM l p out ∧ endOf (-1) out < p ∧ p < l.length ∧ l[p]? = some true) ∨ (u4 = .int .i64 0 ∧ u5 = .int .i64 11 ∧ MkSet l out)
theorem SpI.next {l : List Bool} {out : List Sp} {q : Nat} {r : Option Nat} (h : OfM l q out) (hq : endOf (-1) out = q ∨ (q = 0 ∧ out = [])) (hf : l[q]? ≠ some true ∨ q = 0) (hr : IsNx l q true r) (hql : q ≤ l.length) :
    (∃ p, r = some p ∧ OfM l p out ∧ endOf (-1) out < p ∧ p < l.length ∧ l[p]? = some true) ∨ (r = none ∧ MkSet l out) := by
  cases r with
  | some p =>
    left
    obtain ⟨h1, h2, h3, h4⟩ := hr
    refine ⟨p, rfl, OfM_gap h h1 h4, ?_, h2, h3⟩
    rcases hq with hq | ⟨rfl, rfl⟩
    · rcases hf with hf | hf
      · have : p ≠ q := fun e => hf (e ▸ h3)
        omega
      · by_cases e : p = q
        · rw [hq]
          by_cases ho : out = []
          · subst ho
            have : (-1 : Int) = q := hq
            omega
          · have h5 := hasB_last h.vo ho
            rw [h.ho, hq] at h5
            have : decide ((q : Int) - 1 < (q : Int)) = true := by simp; omega
            rw [this, hf] at h5
            simp [mkd] at h5
        · omega
    · show (-1 : Int) < p
      omega
  | none =>
    right
    exact ⟨rfl, (OfM_gap h hql (fun i h1 h2 => hr i h1 h2)).done (Nat.le_refl _)⟩
/-- what Spans hands back -/
def Sps (w : World) (l : List Bool) (e : Ending) (w' : World) : Prop := ∃ A L, e = .returned (.slice A (L : List Sp).length L.length) ∧ MkSet l L ∧ Rd w' w'.heap.size A L ∧ Below w.heap.size w w'
theorem spans_nil (w : World) : Calls Tryd.prog 27 #[.pointer none] w fun e w' => e = .returned (.slice none 0 0) ∧ w = w' := by
  go_enter Tryd.func27, Tryd.ntmps27
  go_wp2_with (go_at_call 16; refine (next_nil _ _ _).mono ?_; rintro e w' ⟨rfl, rfl⟩)
  go_loop [3, 5] (fun x y => x = .slice none 0 0 ∧ y = .int .i64 2) (fun _ _ => 0)
  case atStart => exact ⟨rfl, rfl⟩
  case round =>
    obtain ⟨rfl, rfl⟩ := hrel
    go_wp2_with (go_at_call 44; refine (clip_any _ _ _ _ (by omega)).mono ?_; rintro e w1 ⟨rfl, rfl⟩)
    go_ret
    exact ⟨rfl, rfl⟩
theorem fl_grown {w w' : World} {b : Nat} {l : List Bool} (h : Fl w b l) (k : Below w.heap.size w w') : Fl w' b l := h.heap (k.block b h.lt_size)
set_option maxHeartbeats 4000000 in
theorem spans_any {w : World} {b : Nat} {l : List Bool} (h : Fl w b l) (hT : Tab w) (h0w : 0 < w.heap.size) : Calls Tryd.prog 27 #[.pointer (some ⟨b, 0, none⟩)] w (Sps w l) := by
  obtain ⟨i0, hi0, hz0, hz1, hz2⟩ := info_parts Tryd.info56
  have hl := h.le
  have N0 := Lib.hid (next_any h hT 0 (Nat.zero_le _) true)
  have HFl : Hid (∀ W, Below w.heap.size w W → Fl W b l) := Lib.hid (fun W k => h.heap (k.block b h.lt_size))
  have HTb : Hid (∀ W, Below w.heap.size w W → Tab W) := Lib.hid (fun W k => hT.heap (k.block 0 h0w))
  clear h hT
  go_enter Tryd.func27, Tryd.ntmps27
  go_wp2_with fail
  refine N0.out.mono ?_
  rintro e w' ⟨r0, rfl, hr0, rfl⟩
  have S0 := SpI.next (OfM.start l) (.inr ⟨rfl, rfl⟩) (.inr rfl) hr0 (Nat.zero_le _)
  obtain ⟨u4, u5, hpair, HS⟩ : ∃ u4 u5, nxPair r0 = .tuple #[u4, u5] ∧ Hid (SpI l [] u4 u5) := by
    rcases S0 with ⟨p, rfl, a1, a2, a3, a4⟩ | ⟨rfl, a1⟩
    · exact ⟨_, _, rfl, Lib.hid (.inl ⟨p, rfl, rfl, a1, a2, a3, a4⟩)⟩
    · exact ⟨_, _, rfl, Lib.hid (.inr ⟨rfl, rfl, a1⟩)⟩
  rw [hpair]
  clear S0 hr0 hpair N0
  go_wp2_with fail
  go_loopw [3, 4, 5] (fun u3 u4 u5 wr => ∃ (out : List Sp), Own wr w.heap.size 56 u3 out ∧ Hid (SpI l out u4 u5) ∧ Below w.heap.size w wr) (fun _ x y _ => if intOf y = 0 then l.length + 1 - (intOf x).toNat else 0)
  case atStart => exact ⟨[], World.ownsRow_nil _ _ _ _, HS, Below.refl _ _⟩
  case round =>
    obtain ⟨out, hown, HI, hb⟩ := hrel
    rcases HI.out with ⟨p, rfl, rfl, a1, a2, a3, a4⟩ | ⟨rfl, rfl, a1⟩
    · have HA := Lib.hid a1
      have HE := Lib.hid a2
      have HP := Lib.hid a4
      have N1 := Lib.hid (next_any (HFl.out wr hb) (HTb.out wr hb) p (by omega) false)
      have hlen : out.length ≤ 4098 := by have := a1.len; omega
      have hsz := hb.size
      have HB := Lib.hid hb
      clear a1 a2 a4 HI hb
      go_wp2_with fail
      refine N1.out.mono ?_
      rintro e w' ⟨r1, rfl, hr1, rfl⟩
      have c0 := (HFl.out wr HB.out).size
      -- where the span ends
      obtain ⟨q, hq1, hq2, HQ, HF⟩ : ∃ q : Nat, (∀ t, r1 = some t → t = q) ∧ (r1 = none → q = l.length) ∧ Hid (OfM l q (out ++ [((p : Int), (q : Int))])) ∧ Hid (p < q ∧ q ≤ l.length ∧ (l[q]? ≠ some true)) := by
        cases r1 with
        | some t =>
          obtain ⟨b1, b2, b3, b4⟩ := hr1
          have hpt : p < t := by
            rcases Nat.lt_or_ge p t with h | h
            · exact h
            · have : p = t := by omega
              subst this
              rw [HP.out] at b3
              cases b3
          refine ⟨t, fun _ h => (Option.some.inj h).symm, fun h => (by cases h), Lib.hid (OfM_span HA.out HE.out hpt (by omega) ?_), Lib.hid ⟨hpt, by omega, by rw [b3]; simp⟩⟩
          intro i h1 h2
          have := b4 i h1 h2
          rw [List.getElem?_eq_getElem (show i < l.length by omega)] at this ⊢
          cases hv : l[i] with
          | true => rfl
          | false => rw [hv] at this; exact absurd rfl this
        | none =>
          refine ⟨l.length, fun _ h => (by cases h), fun _ => rfl, Lib.hid (OfM_span HA.out HE.out a3 (by omega) ?_), Lib.hid ⟨a3, Nat.le_refl _, by rw [List.getElem?_eq_none (Nat.le_refl _)]; simp⟩⟩
          intro i h1 h2
          have := hr1 i h1 h2
          rw [List.getElem?_eq_getElem h2] at this ⊢
          cases hv : l[i] with
          | true => rfl
          | false => rw [hv] at this; exact absurd rfl this
      have HN2 : Hid (∀ W, Below w.heap.size w W → Calls Tryd.prog 16 #[.pointer (some ⟨b, 0, none⟩), .int .i64 q, .bool true] W fun e w' => ∃ r, e = .returned (nxPair r) ∧ IsNx l q true r ∧ W = w') :=
        Lib.hid (fun W k => next_any (HFl.out W k) (HTb.out W k) q HF.out.2.1 true)
      have hqp : p < q ∧ q ≤ l.length := ⟨HF.out.1, HF.out.2.1⟩
      have HL := Lib.hid hl
      clear hr1 HA HE HP N1
      cases r1 with
      | some t =>
        obtain rfl := hq1 t rfl
        clear hq1 hq2
        have hN : Hid ((wr.alloc (.cells #[.int .i64 p, .int .i64 (t : Nat)] 56)).heap.size = wr.heap.size + 1) := Lib.hid (by simp)
        simp only [nxPair]
        go_wp2_with (
          at_builtin
          refine wpList_append_lies _ rfl (.tmp 27) (.tmp 31) _ rfl w.heap.size 56 i0 _ 2 16 Tryd.underlying51 hi0 hz0 hz1 hz2 rfl (by omega) u3 out.length (flat out) rfl (World.ownsRow.alloc (w := wr) hown _)
            ⟨wr.heap.size, 0, none⟩ 1 1 [.int .i64 p, .int .i64 (t : Nat)] rfl rfl (World.news_of_block (cs := #[.int .i64 p, .int .i64 (t : Nat)]) (t := 56) (fr := (0, 0)) (heap_alloc_new wr _)) (by simp [Value.oneCell'])
            (by omega) (by simp [maxLen]; omega) (by omega) (by simp; omega) (wr.heap.size + 1) (by simp) ?_
          intro gg cap w1 hown1 hgrow hat hlt1)
        have hb1 : Below w.heap.size w w1 := (HB.out.alloc hsz _).grown hgrow (by simp; omega) (fun k e => (hown.lt k e).1)
        have ho2 := own_app1 hown1
        clear hown1 hgrow hown
        refine (HN2.out w1 hb1).mono ?_
        rintro e w' ⟨r2, rfl, hr2, rfl⟩
        have S1 := SpI.next HQ.out (.inl (by rw [endOf_snoc])) (.inl HF.out.2.2) hr2 HF.out.2.1
        rcases S1 with ⟨p2, rfl, b1, b2, b3, b4⟩ | ⟨rfl, b1⟩
        · have HS2 : Hid (SpI l (out ++ [((p : Int), ((t : Nat) : Int))]) (.int .i64 p2) (.int .i64 0)) := Lib.hid (.inl ⟨p2, rfl, rfl, b1, b2, b3, b4⟩)
          have hp2 : p < p2 := by have := hr2.1; omega
          clear b1 b2 b4 hr2 HQ HF HN2 HB
          simp only [nxPair]
          go_wp2_with fail
          go_roundw
          case rel => exact ⟨_, ho2, HS2, hb1⟩
          case measure => simp [intOf]; omega
        · have HS2 : Hid (SpI l (out ++ [((p : Int), ((t : Nat) : Int))]) (.int .i64 0) (.int .i64 11)) := Lib.hid (.inr ⟨rfl, rfl, b1⟩)
          clear b1 hr2 HQ HF HN2 HB
          simp only [nxPair]
          go_wp2_with fail
          go_roundw
          case rel => exact ⟨_, ho2, HS2, hb1⟩
          case measure => simp [intOf]; omega
      | none =>
        obtain rfl := hq2 rfl
        clear hq1 hq2
        have hN : Hid ((wr.alloc (.cells #[.int .i64 p, .int .i64 (l.length : Nat)] 56)).heap.size = wr.heap.size + 1) := Lib.hid (by simp)
        simp only [nxPair]
        go_wp2_with (
          at_builtin
          refine wpList_append_lies _ rfl (.tmp 27) (.tmp 31) _ rfl w.heap.size 56 i0 _ 2 16 Tryd.underlying51 hi0 hz0 hz1 hz2 rfl (by omega) u3 out.length (flat out) rfl (World.ownsRow.alloc (w := wr) hown _)
            ⟨wr.heap.size, 0, none⟩ 1 1 [.int .i64 p, .int .i64 (l.length : Nat)] rfl rfl (World.news_of_block (cs := #[.int .i64 p, .int .i64 (l.length : Nat)]) (t := 56) (fr := (0, 0)) (heap_alloc_new wr _)) (by simp [Value.oneCell'])
            (by omega) (by simp [maxLen]; omega) (by omega) (by simp; omega) (wr.heap.size + 1) (by simp) ?_
          intro gg cap w1 hown1 hgrow hat hlt1)
        have hb1 : Below w.heap.size w w1 := (HB.out.alloc hsz _).grown hgrow (by simp; omega) (fun k e => (hown.lt k e).1)
        have ho2 := own_app1 hown1
        clear hown1 hgrow hown
        refine (HN2.out w1 hb1).mono ?_
        rintro e w' ⟨r2, rfl, hr2, rfl⟩
        have S1 := SpI.next HQ.out (.inl (by rw [endOf_snoc])) (.inl HF.out.2.2) hr2 HF.out.2.1
        rcases S1 with ⟨p2, rfl, b1, b2, b3, b4⟩ | ⟨rfl, b1⟩
        · have HS2 : Hid (SpI l (out ++ [((p : Int), ((l.length : Nat) : Int))]) (.int .i64 p2) (.int .i64 0)) := Lib.hid (.inl ⟨p2, rfl, rfl, b1, b2, b3, b4⟩)
          have hp2 : p < p2 := by have := hr2.1; omega
          clear b1 b2 b4 hr2 HQ HF HN2 HB
          simp only [nxPair]
          go_wp2_with fail
          go_roundw
          case rel => exact ⟨_, ho2, HS2, hb1⟩
          case measure => simp [intOf]; omega
        · have HS2 : Hid (SpI l (out ++ [((p : Int), ((l.length : Nat) : Int))]) (.int .i64 0) (.int .i64 11)) := Lib.hid (.inr ⟨rfl, rfl, b1⟩)
          clear b1 hr2 HQ HF HN2 HB
          simp only [nxPair]
          go_wp2_with fail
          go_roundw
          case rel => exact ⟨_, ho2, HS2, hb1⟩
          case measure => simp [intOf]; omega
    · obtain ⟨A, c, rfl, hc, hrd⟩ := hown.rd
      clear HI
      go_wp2_with (go_at_call 44; refine (clip_any _ _ _ _ hc).mono ?_; rintro e w1 ⟨rfl, rfl⟩)
      go_ret
      exact ⟨A, out, rfl, a1, hrd, hb⟩
end Go.Proofs.YtbdjpacmbaoaeaaDoor
