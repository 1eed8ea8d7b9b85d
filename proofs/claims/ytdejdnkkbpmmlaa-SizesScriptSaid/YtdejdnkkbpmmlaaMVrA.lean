/- Changed rows: what they are, and that an index may have them. -/
import Derived.Test.YtdejdnkkbpmmlaaMKnW
namespace Go.Proofs.Ytdejdnkkbpmmlaa
open Go.RowKit

/-- the error of the first size that has one -/
def chk1F (acc : Int) : List Int → Int
  | [] => 0
  | x :: r => if x < 1 ∨ 2305843009213693952 < x then 12 else if 4611686018427387904 < acc + x then 13 else chk1F (acc + x) r
def chk1 (l : List Int) : Int := chk1F 0 l
theorem chk1F_cons (acc x : Int) (r : List Int) : chk1F acc (x :: r) = if x < 1 ∨ 2305843009213693952 < x then 12 else if 4611686018427387904 < acc + x then 13 else chk1F (acc + x) r := rfl
theorem chk1F_nz {l : List Int} (h : ∀ x ∈ l, x ≠ 0) (acc : Int) : chkF acc l = chk1F acc l := by
  induction l generalizing acc with
  | nil => rfl
  | cons x r ih =>
    have h0 := h x (by simp)
    rw [chk1F_cons, chkF, ih (fun y hy => h y (by simp [hy]))]
    by_cases h1 : x < 0 ∨ 2305843009213693952 < x
    · rw [if_pos h1, if_pos (show x < 1 ∨ 2305843009213693952 < x by omega)]
    · rw [if_neg h1, if_neg (show ¬ (x < 1 ∨ 2305843009213693952 < x) by omega)]
theorem chk1F_app (a b : List Int) (acc : Int) : chk1F acc (a ++ b) = if chk1F acc a = 0 then chk1F (acc + a.sum) b else chk1F acc a := by
  induction a generalizing acc with
  | nil => simp [chk1F]
  | cons x r ih =>
    have c1 := chk1F_cons acc x r
    have c2 := chk1F_cons acc x (r ++ b)
    rw [List.cons_append]
    by_cases h1 : x < 1 ∨ 2305843009213693952 < x
    · rw [if_pos h1] at c1 c2
      rw [c1, c2, if_neg (by decide)]
    · rw [if_neg h1] at c1 c2
      by_cases h2 : 4611686018427387904 < acc + x
      · rw [if_pos h2] at c1 c2
        rw [c1, c2, if_neg (by decide)]
      · rw [if_neg h2] at c1 c2
        rw [c1, c2, ih, List.sum_cons, Int.add_assoc]
theorem chk_nz {l : List Int} (h : ∀ x ∈ l, x ≠ 0) (hl : l.length ≤ 4096) : chk l = chk1 l := by
  unfold chk chk1; rw [if_neg (by omega), chk1F_nz h]
theorem chk1_zero {l : List Int} {j : Nat} (hj : j < l.length) (h0 : l[j] = 0) (h : ∀ k (hk : k < j), l[k]'(by omega) ≠ 0) (hl : l.length ≤ 4096) :
    chk1 l = if chk (l.take j) = 0 then 12 else chk (l.take j) := by
  have hn : ∀ x ∈ l.take j, x ≠ 0 := fun x hx => by
    obtain ⟨k, hk, rfl⟩ := List.mem_iff_getElem.1 hx
    have hk' : k < j := by rw [List.length_take] at hk; omega
    rw [List.getElem_take]
    exact h k hk'
  have e : l = l.take j ++ l[j] :: l.drop (j + 1) := by rw [← List.drop_eq_getElem_cons hj, List.take_append_drop]
  rw [chk_nz hn (by rw [List.length_take]; omega)]
  have g := chk1F_app (l.take j) (l[j] :: l.drop (j + 1)) 0
  have c := chk1F_cons (0 + (l.take j).sum) l[j] (l.drop (j + 1))
  rw [if_pos (show l[j] < 1 ∨ 2305843009213693952 < l[j] by omega)] at c
  rw [c, ← e] at g
  exact g
theorem chk1_nil : chk1 [] = 0 := rfl
/-- what Index hands back -/
def IdxR (l : List Int) (v : Int) : Prop := (∃ j : Nat, v = j ∧ ∃ hj : j < l.length, l[j] = 0 ∧ ∀ k (hk : k < j), l[k]'(by omega) ≠ 0) ∨ (v = -1 ∧ ∀ x ∈ l, x ≠ 0)
set_option maxRecDepth 100000 in
set_option maxHeartbeats 1000000 in
theorem idx_any (A : Option Addr) (c : Nat) (l : List Int) (w : World) (hr : RdI w w.heap.size A l) (hl : l.length ≤ 4611686018427387904) :
    Calls Try.prog 49 #[.slice A l.length c, .int .i64 0] w fun e w' => ∃ v : Int, e = .returned (.int .i64 v) ∧ IdxR l v ∧ w = w' := by
  have HR := Lib.hid hr
  clear hr
  go_enter Try.func49, Try.ntmps49
  go_wp2_with fail
  go_loop [5, 8] (fun _ k => ∃ j : Nat, k = .int .i64 j ∧ j ≤ l.length ∧ ∀ i (h : i < j) (h2 : i < l.length), l[i] ≠ 0) (fun _ k => l.length - (intOf k).toNat)
  case atStart => exact ⟨0, rfl, Nat.zero_le _, fun i h => by omega⟩
  case round =>
    obtain ⟨j, rfl, hj, hs⟩ := hrel
    by_cases hlt : j < l.length
    · obtain ⟨b, o, rfl, hb, c0⟩ := HR.out j hlt
      by_cases hz : l[j] = 0
      · have HF : Hid (IdxR l (j : Int)) := Lib.hid (.inl ⟨j, rfl, hlt, hz, fun k hk => hs k hk (by omega)⟩)
        rw [hz] at c0
        clear hs hz
        go_wp2_with fail
        go_ret
        exact ⟨_, rfl, HF.out, rfl⟩
      · have HS : Hid (∀ i (h : i < j + 1) (h2 : i < l.length), l[i] ≠ 0) := Lib.hid (fun i h h2 => by
          rcases Nat.lt_or_ge i j with g | g
          · exact hs i g h2
          · obtain rfl : i = j := by omega
            exact hz)
        obtain ⟨x, hx⟩ : ∃ x, l[j] = x := ⟨_, rfl⟩
        rw [hx] at c0 hz
        have e0 : ((0 : Int) == x) = false := by simpa using fun h => hz h.symm
        clear hs hx hz
        go_wp2_with fail
        go_round
        case rel => exact ⟨j + 1, by go_num, by omega, HS.out⟩
        case measure => simp [intOf]; omega
    · have HF : Hid (IdxR l (-1)) := Lib.hid (.inr ⟨rfl, fun x hx => by
        obtain ⟨k, hk, rfl⟩ := List.mem_iff_getElem.1 hx
        exact hs k (by omega) hk⟩)
      clear hs
      go_wp2_with fail
      go_ret
      exact ⟨_, rfl, HF.out, rfl⟩
set_option maxRecDepth 100000 in
set_option maxHeartbeats 2000000 in
theorem check1_any (A : Option Addr) (c : Nat) (l : List Int) (w : World) (hr : RdI w w.heap.size A l) (hl : l.length ≤ 4096) (hc : l.length ≤ c) :
    Calls Try.prog 35 #[.slice A l.length c] w fun e w' => e = .returned (.int .i64 (chk1 l)) ∧ w = w' := by
  have HX := Lib.hid (idx_any A c l w hr (by omega))
  have HR := Lib.hid hr
  clear hr
  go_enter Try.func35, Try.ntmps35
  go_wp2_with fail
  refine HX.out.mono ?_
  rintro e w1 ⟨v, rfl, hv, rfl⟩
  rcases hv with ⟨j, rfl, hj, h0, h⟩ | ⟨rfl, h⟩
  · have HE := Lib.hid (chk1_zero hj h0 h hl)
    have htl : (l.take j).length = j := by rw [List.length_take]; omega
    have hk := check_any A c (l.take j) w (HR.out.part j) (by omega)
    rw [htl] at hk
    obtain ⟨f, hf⟩ : ∃ f, chk (l.take j) = f := ⟨_, rfl⟩
    rw [hf] at hk HE
    have HK := Lib.hid hk
    have z0 : (0 : Int) ≤ (j : Int) := by omega
    have z1 : (j : Int) ≤ (c : Int) := by omega
    have z2 : decide ((j : Int) < 0) = false := decide_eq_false (by omega)
    clear hk h h0 hf htl
    go_wp2_with fail
    refine HK.out.mono ?_
    rintro e w2 ⟨rfl, rfl⟩
    by_cases hf : f = 0
    · subst hf
      go_wp2_with fail
      go_ret
      exact ⟨by rw [HE.out]; rfl, rfl⟩
    · have e0 : (f == 0) = false := by simpa using hf
      have HE2 := Lib.hid (HE.out.trans (if_neg hf))
      clear hf HE
      go_wp2_with fail
      go_ret
      exact ⟨by rw [HE2.out]; rfl, rfl⟩
  · have HK := Lib.hid (check_any A c l w HR.out (by omega))
    have HE := Lib.hid (chk_nz h hl)
    clear h
    go_wp2_with fail
    refine HK.out.mono ?_
    rintro e w2 ⟨rfl, rfl⟩
    go_wp2_with fail
    go_ret
    exact ⟨by rw [← HE.out]; rfl, rfl⟩
end Go.Proofs.Ytdejdnkkbpmmlaa

namespace Go.Proofs.Ytdejdnkkbpmmlaa
open Go.RowKit

theorem far_rd {W : World} {g : Nat} {A : Option Addr} {xs : List S.Sp} (h : S.Rd W g A xs) : Far g A xs := fun hne a ha => by
  have hl : 0 < xs.length := List.length_pos_iff.2 hne
  obtain ⟨b, o, e, hb, _⟩ := h 0 hl
  rw [ha] at e
  cases e
  exact Nat.ne_of_lt hb
theorem far_new {B g : Nat} {A : Option Addr} {xs : List S.Sp} (h : ∀ a, A = some a → B ≤ a.block) (hg : g < B) : Far g A xs := fun _ a ha => by
  have := h a ha; omega
theorem rd_set5 {W : World} {g : Nat} {A : Option Addr} {xs : List S.Sp} {a0 a1 a2 a3 a4 : Value} (h : S.Rd W W.heap.size A xs) (hf : Far g A xs) :
    S.Rd (((((W.setCell ⟨g, 0, none⟩ a0).setCell ⟨g, 1, none⟩ a1).setCell ⟨g, 2, none⟩ a2).setCell ⟨g, 3, none⟩ a3).setCell ⟨g, 4, none⟩ a4) (((((W.setCell ⟨g, 0, none⟩ a0).setCell ⟨g, 1, none⟩ a1).setCell ⟨g, 2, none⟩ a2).setCell ⟨g, 3, none⟩ a3).setCell ⟨g, 4, none⟩ a4).heap.size A xs := fun k hk => by
  obtain ⟨b, o, e, h1, h2, h3⟩ := h k hk
  have hne : b ≠ g := hf (fun hn => by rw [hn] at hk; simp at hk) _ e
  exact ⟨b, o, e, by simpa [World.setCell] using h1, cell_set5 (p := ⟨b, _, none⟩) hne h2, cell_set5 (p := ⟨b, _, none⟩) hne h3⟩
theorem setRes_set {B : Nat} {m : Int → Bool} {e : Ending} {w' : World} (h : S.SetRes B m e w') {r : List (Int × Bool)} (hm : ∀ i, m i = kn r i) (hr : r.length ≤ 1024) :
    ∃ (A : Option Addr) (out : List S.Sp), e = .returned (.tuple #[.slice A out.length out.length, .int .i64 0]) ∧ IsSet r out ∧ S.Rd w' w'.heap.size A out ∧ ∀ a, A = some a → B ≤ a.block := by
  obtain ⟨out, hv, hh, hc⟩ := h
  have hs : IsSet r out := ⟨hv, fun i => (hh i).trans (hm i)⟩
  rcases hc with ⟨_, A, rfl, hrd, hf⟩ | ⟨h4, _⟩
  · exact ⟨A, out, rfl, hs, hrd, hf⟩
  · have := hs.len; omega
/-- a set is handed back, with the error 0 -/
def SetE (r : List (Int × Bool)) (w : World) (e : Ending) (w' : World) : Prop :=
  ∃ (A : Option Addr) (out : List S.Sp), e = .returned (.tuple #[.slice A out.length out.length, .int .i64 0]) ∧ IsSet r out ∧ S.Rd w' w'.heap.size A out ∧ (∀ a, A = some a → w.heap.size ≤ a.block) ∧ Below w.heap.size w w'
theorem sIns {r : List (Int × Bool)} {xs : List S.Sp} (h : IsSet r xs) {A : Option Addr} {c : Nat} {w : World} (hr : S.Rd w w.heap.size A xs) (hl : r.length ≤ 1024) (a : Nat) (ha : a ≤ r.length) (m : List Int) (hml : r.length + m.length ≤ 1024) :
    Calls Try.prog 38 #[.slice A xs.length c, .int .i64 a, .int .i64 m.length] w (SetE (r.take a ++ (m.map fun s => (s, false)) ++ r.drop a) w) := by
  have hz := S.ins_ok A c xs a m.length w hr (h.chk hl) (by omega) (by omega) (by omega) (by omega) (.inr (by have := h.endle; omega))
  refine hz.mono fun e w' ⟨h1, h2⟩ => ?_
  obtain ⟨A', out, h3, h4, h5, h6⟩ := setRes_set h1 (ins_gap h ha m) (by simp; omega)
  exact ⟨A', out, h3, h4, h5, h6, h2⟩
theorem sRem {r : List (Int × Bool)} {xs : List S.Sp} (h : IsSet r xs) {A : Option Addr} {c : Nat} {w : World} (hr : S.Rd w w.heap.size A xs) (hl : r.length ≤ 1024) (a n : Nat) (ha : a + n ≤ r.length) :
    Calls Try.prog 41 #[.slice A xs.length c, .int .i64 a, .int .i64 n] w (SetE (r.take a ++ r.drop (a + n)) w) := by
  have hz := S.rem_ok A c xs a n w hr (h.chk hl) (by omega) (by omega) (by omega) (by omega)
  refine hz.mono fun e w' ⟨h1, h2⟩ => ?_
  obtain ⟨A', out, h3, h4, h5, h6⟩ := setRes_set h1 (rem_kn h ha) (by simp; omega)
  exact ⟨A', out, h3, h4, h5, h6, h2⟩
theorem sUni {r R : List (Int × Bool)} {xs ys : List S.Sp} (h : IsSet r xs) {A B : Option Addr} {c d : Nat} {w : World} (hr : S.Rd w w.heap.size A xs) (hr2 : S.Rd w w.heap.size B ys) (hl : r.length ≤ 1024) (hy : S.chk ys = 0) (hc : xs.length ≤ c) (hd : ys.length ≤ d)
    (hR : R.length ≤ 1024) (hm : ∀ i, (S.hasB xs i || S.hasB ys i) = kn R i) : Calls Try.prog 44 #[.slice A xs.length c, .slice B ys.length d] w (SetE R w) := by
  refine (S.union_ok A B c d xs ys w hr hr2 (h.chk hl) hy hc hd).mono fun e w' ⟨h1, h2⟩ => ?_
  obtain ⟨A', out, h3, h4, h5, h6⟩ := setRes_set h1 hm hR
  exact ⟨A', out, h3, h4, h5, h6, h2⟩
theorem sWit {r R : List (Int × Bool)} {xs ys : List S.Sp} (h : IsSet r xs) {A B : Option Addr} {c d : Nat} {w : World} (hr : S.Rd w w.heap.size A xs) (hr2 : S.Rd w w.heap.size B ys) (hl : r.length ≤ 1024) (hy : S.chk ys = 0) (hc : xs.length ≤ c) (hd : ys.length ≤ d)
    (hR : R.length ≤ 1024) (hm : ∀ i, (S.hasB xs i && !S.hasB ys i) = kn R i) : Calls Try.prog 58 #[.slice A xs.length c, .slice B ys.length d] w (SetE R w) := by
  refine (S.without_ok A B c d xs ys w hr hr2 (h.chk hl) hy hc hd).mono fun e w' ⟨h1, h2⟩ => ?_
  obtain ⟨A', out, h3, h4, h5, h6⟩ := setRes_set h1 hm hR
  exact ⟨A', out, h3, h4, h5, h6, h2⟩
theorem rd_one (w : World) (p q : Int) : S.Rd (w.alloc (.cells #[.int .i64 p, .int .i64 q] 72)) (w.alloc (.cells #[.int .i64 p, .int .i64 q] 72)).heap.size (some ⟨w.heap.size, 0, none⟩) [(p, q)] := fun k hk => by
  obtain rfl : k = 0 := by simpa using hk
  have h := heap_alloc_new w (.cells #[.int .i64 p, .int .i64 q] 72)
  exact ⟨w.heap.size, 0, rfl, heap_lt h, cell_of_row _ _ 0 _ 72 (0, 0) h, cell_of_row _ _ 1 _ 72 (0, 0) h⟩
/-- a set is handed back -/
def SetV (r : List (Int × Bool)) (A0 : Option Addr) (xs : List S.Sp) (n : Nat) (w : World) (e : Ending) (w' : World) : Prop :=
  ∃ (A : Option Addr) (out : List S.Sp) (c : Nat), e = .returned (.slice A out.length c) ∧ IsSet r out ∧ S.Rd w' w'.heap.size A out ∧ out.length ≤ c ∧ (∀ g, (n = 0 → Far g A0 xs) → g < w.heap.size → Far g A out) ∧ Below w.heap.size w w'
set_option maxRecDepth 100000 in
set_option maxHeartbeats 2000000 in
theorem mark_any {r R : List (Int × Bool)} {xs : List S.Sp} (h : IsSet r xs) {A : Option Addr} {c : Nat} {w : World} (hr : S.Rd w w.heap.size A xs) (hl : r.length ≤ 1024) (hc : xs.length ≤ c) (a n : Nat) (han : a + n ≤ 1024) (b : Bool) (hR : R.length ≤ 1024)
    (hm : ∀ i, (if b then (S.hasB xs i || S.hasB [((a : Int), (a : Int) + n)] i) else (S.hasB xs i && !S.hasB [((a : Int), (a : Int) + n)] i)) = kn R i) :
    Calls Try.prog 39 #[.slice A xs.length c, .int .i64 a, .int .i64 n, .bool b] w (SetV R A xs n w) := by
  by_cases hn : n = 0
  · subst hn
    have hs : IsSet R xs := ⟨h.val, fun i => by
      rw [← hm i, S.hasB_one, decide_eq_false (by show ¬ ((a : Int) ≤ i ∧ i < (a : Int) + (0 : Nat)); omega)]
      cases b <;> simp⟩
    have HS := Lib.hid hs
    have HR := Lib.hid hr
    clear hm hr h hs
    go_enter Try.func39, Try.ntmps39
    go_wp2_with fail
    go_ret
    exact ⟨A, xs, c, rfl, HS.out, HR.out, hc, fun _ h _ => h rfl, Below.refl _ _⟩
  · obtain ⟨q, hq⟩ : ∃ q : Nat, (a : Int) + (n : Int) = (q : Int) := ⟨a + n, by omega⟩
    rw [hq] at hm
    have hb := below_new w (.cells #[.int .i64 a, .int .i64 q] 72)
    have ho := rd_one w a q
    have hy : S.chk [((a : Int), (q : Int))] = 0 := S.chk_of_val (set_one (by omega) (by omega) (by omega)) (by simp)
    have hr2 := (hr.below hb).more hb.size
    have e0 : ((n : Int) == 0) = false := by simp; omega
    cases b with
    | true =>
      have HU := Lib.hid (sUni (c := c) (d := 1) h hr2 ho hl hy hc (Nat.le_refl _) hR hm)
      have HB := Lib.hid hb
      clear hm hr h hb ho hy hr2
      go_enter Try.func39, Try.ntmps39
      go_wp2_with fail
      refine HU.out.mono ?_
      rintro e w1 ⟨A', out, rfl, hs, hrd, hfr, kk⟩
      have HB1 := Lib.hid (HB.out.trans (kk.mono HB.out.size))
      have HF := Lib.hid (show ∀ g, (n = 0 → Far g A xs) → g < w.heap.size → Far g A' out from fun g _ hg => far_new hfr (Nat.lt_of_lt_of_le hg HB.out.size))
      have HS := Lib.hid hs
      have HR := Lib.hid hrd
      clear hs hrd hfr kk HU HB
      go_wp2_with (refine (sure_any _ _ _ _ _).mono ?_; rintro e w2 ⟨rfl, rfl⟩)
      go_ret
      exact ⟨A', out, _, rfl, HS.out, HR.out, Nat.le_refl _, HF.out, HB1.out⟩
    | false =>
      have HU := Lib.hid (sWit (c := c) (d := 1) h hr2 ho hl hy hc (Nat.le_refl _) hR hm)
      have HB := Lib.hid hb
      clear hm hr h hb ho hy hr2
      go_enter Try.func39, Try.ntmps39
      go_wp2_with fail
      refine HU.out.mono ?_
      rintro e w1 ⟨A', out, rfl, hs, hrd, hfr, kk⟩
      have HB1 := Lib.hid (HB.out.trans (kk.mono HB.out.size))
      have HF := Lib.hid (show ∀ g, (n = 0 → Far g A xs) → g < w.heap.size → Far g A' out from fun g _ hg => far_new hfr (Nat.lt_of_lt_of_le hg HB.out.size))
      have HS := Lib.hid hs
      have HR := Lib.hid hrd
      clear hs hrd hfr kk HU HB
      go_wp2_with (refine (sure_any _ _ _ _ _).mono ?_; rintro e w2 ⟨rfl, rfl⟩)
      go_ret
      exact ⟨A', out, _, rfl, HS.out, HR.out, Nat.le_refl _, HF.out, HB1.out⟩
end Go.Proofs.Ytdejdnkkbpmmlaa

namespace Go.Proofs.Ytdejdnkkbpmmlaa
open Go.RowKit

theorem vd_sub {l m : List Int} (h : Vd l) (hs : ∀ x ∈ m, x ∈ l) (hl : m.length ≤ l.length) (hh : m.sum ≤ l.sum) : Vd m := by
  have h1 := h.len
  have h2 := h.ok.sum
  exact vd_of ⟨fun x hx => h.ok.nn x (hs x hx), by omega, by omega⟩ fun x hx => h.hi1 x (hs x hx)
theorem vd_mem {l m : List Int} (h : Ok m) (hs : ∀ x ∈ m, x ∈ l) (hv : Vd l) : Vd m := vd_of h fun x hx => hv.hi1 x (hs x hx)
theorem insR_vd {l s : List Int} (hv : Vd l) (i : Int) : Vd (insR l i s).1 := by
  unfold insR
  split
  · split
    · rename_i h0
      split
      · rename_i hj
        have hs := chk_zero.1 h0
        have ho := ok_of_joinE hv.ok hs.ok hj
        refine vd_of (ho.perm (ins_perm l s i.toNat)) fun x hx => ?_
        rcases List.mem_append.1 ((ins_perm l s i.toNat).subset hx) with hx | hx
        · exact hv.hi1 x hx
        · exact hs.hi1 x hx
      · exact vd_none
    · exact vd_none
  · exact vd_none
theorem remR_vd {l : List Int} (hv : Vd l) (i n : Int) : Vd (remR l i n).1 := by
  unfold remR
  split
  · have hsub : (l.take i.toNat ++ l.drop (i.toNat + n.toNat)).Sublist l := by
      have h := List.Sublist.append (List.Sublist.refl (l.take i.toNat)) (List.drop_sublist_drop_left l (Nat.le_add_right i.toNat n.toNat))
      rwa [List.take_append_drop] at h
    exact vd_sub hv (fun _ hx => hsub.subset hx) hsub.length_le (sum_sub hsub hv.ok.nn)
  · exact vd_none
theorem movR_vd {l : List Int} (hv : Vd l) (i n x : Int) : Vd (movR l i n x).1 := by
  unfold movR
  split
  · split
    · have hp := mv_perm l i.toNat n.toNat x.toNat
      exact vd_of (hv.ok.perm hp) fun y hy => hv.hi1 y (hp.subset hy)
    · exact vd_none
  · exact vd_none
theorem setR_vd {l : List Int} (hv : Vd l) (i x : Int) : Vd (setR l i x).1 := by
  unfold setR
  split
  · rename_i hp
    obtain ⟨j, z, rfl, hz, hj⟩ := partE_cases hp
    have hj' : j < l.length := by omega
    split
    · exact vd_none
    · rename_i hx
      split
      · exact vd_none
      · rename_i hs
        have e : (l.set (j : Int).toNat x).sum = l.sum - l.getD j 0 + x := set_sum hj' x
        have hn := hv.ok.nn
        have hm : ∀ y ∈ l.set (j : Int).toNat x, y ∈ l ∨ y = x := fun y hy => List.mem_or_eq_of_mem_set hy
        refine vd_of ⟨fun y hy => ?_, ?_, by rw [List.length_set]; exact hv.len⟩ fun y hy => ?_
        · rcases hm y hy with h | rfl
          · exact hn y h
          · omega
        · rw [e]
          have : (j : Int).toNat = j := rfl
          rw [this] at hs
          omega
        · rcases hm y hy with h | rfl
          · exact hv.hi1 y h
          · omega
  · exact vd_none
theorem sz_app (a b : List (Int × Bool)) : sz (a ++ b) = sz a ++ sz b := by simp [sz]
theorem sz_take (r : List (Int × Bool)) (n : Nat) : sz (r.take n) = (sz r).take n := by simp [sz, List.map_take]
theorem sz_drop (r : List (Int × Bool)) (n : Nat) : sz (r.drop n) = (sz r).drop n := by simp [sz, List.map_drop]
theorem sz_map (m : List Int) (b : Bool) : sz (m.map fun s => (s, b)) = m := by simp [sz, Function.comp_def]
theorem sz_set (r : List (Int × Bool)) (j : Nat) (x : Int) (b : Bool) : sz (r.set j (x, b)) = (sz r).set j x := by simp [sz, List.map_set]
/-- rows are taken out -/
def remI (r : List (Int × Bool)) (i n : Int) : List (Int × Bool) × Int := if partE r.length i n = 0 then (r.take i.toNat ++ r.drop (i.toNat + n.toNat), 0) else ([], 4)
theorem remI_sz (r : List (Int × Bool)) (i n : Int) : remR (sz r) i n = (sz (remI r i n).1, (remI r i n).2) := by
  unfold remR remI
  rw [sz_len]
  split
  · rw [sz_app, sz_take, sz_drop]
  · rfl
/-- rows are moved -/
def movI (r : List (Int × Bool)) (i n x : Int) : List (Int × Bool) × Int :=
  if partE r.length i n = 0 then
    if partE (r.length - n.toNat) x 0 = 0 then
      ((r.take i.toNat ++ r.drop (i.toNat + n.toNat)).take x.toNat ++ (r.drop i.toNat).take n.toNat ++ (r.take i.toNat ++ r.drop (i.toNat + n.toNat)).drop x.toNat, 0)
    else ([], 4)
  else ([], 4)
theorem movI_sz (r : List (Int × Bool)) (i n x : Int) : movR (sz r) i n x = (sz (movI r i n x).1, (movI r i n x).2) := by
  unfold movR movI
  rw [sz_len]
  split
  · split
    · simp only [sz_app, sz_take, sz_drop]
    · rfl
  · rfl
/-- rows are put in -/
def insI (r : List (Int × Bool)) (i : Int) (s : List Int) (b : Bool) : List (Int × Bool) × Int :=
  if partE r.length i 0 = 0 then
    if 1024 < r.length + s.length then ([], 3)
    else if chk1 s = 0 then
      if joinE (sz r) s = 0 then (r.take i.toNat ++ (s.map fun x => (x, b)) ++ r.drop i.toNat, 0) else ([], 13)
    else ([], chk1 s)
  else ([], 4)
/-- a row is set -/
def setI (r : List (Int × Bool)) (i x : Int) (b : Bool) : List (Int × Bool) × Int :=
  if partE r.length i 1 = 0 then
    if x < 1 ∨ 2305843009213693952 < x then ([], 12)
    else if 4611686018427387904 < (sz r).sum - (sz r).getD i.toNat 0 + x then ([], 13)
    else (r.set i.toNat (x, b), 0)
  else ([], 4)
theorem vr_none : Vr [] := ⟨vd_none, by simp, by simp [sz]⟩
theorem remI_vr {r : List (Int × Bool)} (h : Vr r) (i n : Int) : Vr (remI r i n).1 := by
  have h1 := remR_vd h.vd i n
  rw [remI_sz] at h1
  refine ⟨h1, ?_, fun x hx => ?_⟩
  · unfold remI; split
    · have := h.len; simp; omega
    · simp
  · unfold remI at hx
    split at hx
    · rw [sz_app, sz_take, sz_drop] at hx
      rcases List.mem_append.1 hx with hx | hx
      · exact h.pos x (List.mem_of_mem_take hx)
      · exact h.pos x (List.mem_of_mem_drop hx)
    · simp [sz] at hx
theorem movI_vr {r : List (Int × Bool)} (h : Vr r) (i n x : Int) : Vr (movI r i n x).1 := by
  have h1 := movR_vd h.vd i n x
  rw [movI_sz] at h1
  unfold movI at h1 ⊢
  split
  · rename_i hp
    split
    · rename_i hq
      rw [if_pos hp, if_pos hq] at h1
      have hperm := mv_perm (sz r) i.toNat n.toNat x.toNat
      refine ⟨h1, ?_, fun y hy => ?_⟩
      · have e := congrArg List.length (show sz ((r.take i.toNat ++ r.drop (i.toNat + n.toNat)).take x.toNat ++ (r.drop i.toNat).take n.toNat ++ (r.take i.toNat ++ r.drop (i.toNat + n.toNat)).drop x.toNat) = _ from rfl)
        rw [← sz_len]
        simp only [sz_app, sz_take, sz_drop]
        rw [hperm.length_eq, sz_len]; exact h.len
      · simp only [sz_app, sz_take, sz_drop] at hy
        exact h.pos y (hperm.subset hy)
    · exact vr_none
  · exact vr_none
theorem chk1_pos {l : List Int} {acc : Int} (h : chk1F acc l = 0) : ∀ x ∈ l, 1 ≤ x := by
  induction l generalizing acc with
  | nil => intro x hx; simp at hx
  | cons y r ih =>
    rw [chk1F_cons] at h
    split at h
    · cases h
    · split at h
      · cases h
      · intro x hx
        rcases List.mem_cons.1 hx with rfl | hx
        · omega
        · exact ih h x hx
theorem chk1_chk {s : List Int} (h : chk1 s = 0) (hl : s.length ≤ 4096) : chk s = 0 := by
  rw [chk_nz (fun x hx => by have := chk1_pos h x hx; omega) hl]; exact h
theorem joinE_small {r : List (Int × Bool)} {s : List Int} (h : ¬ 1024 < r.length + s.length) : joinE (sz r) s = 0 ∨ joinE (sz r) s = 13 := by
  unfold joinE
  rw [if_neg (by rw [sz_len]; omega)]
  split <;> simp
theorem insI_insR {r : List (Int × Bool)} {i : Int} {s : List Int} (b : Bool) (h2 : ¬ 1024 < r.length + s.length) (h3 : chk1 s = 0) : insR (sz r) i s = (sz (insI r i s b).1, (insI r i s b).2) := by
  unfold insR insI
  rw [sz_len]
  split
  · rw [if_pos (chk1_chk h3 (by omega))]
    rcases joinE_small h2 with h4 | h4
    · rw [if_pos h4, if_pos h4, sz_app, sz_app, sz_take, sz_drop, sz_map]
    · rw [h4]; rfl
  · rfl
theorem insI_vr {r : List (Int × Bool)} (h : Vr r) (i : Int) (s : List Int) (b : Bool) : Vr (insI r i s b).1 := by
  by_cases h2 : 1024 < r.length + s.length
  · unfold insI; rw [if_pos h2]; split <;> exact vr_none
  · by_cases h3 : chk1 s = 0
    · have h1 := insR_vd h.vd (s := s) i
      rw [insI_insR b h2 h3] at h1
      refine ⟨h1, ?_, fun x hx => ?_⟩
      · unfold insI; split
        · split
          · simp; omega
          · simp
        · simp
      · unfold insI at hx
        split at hx
        · split at hx
          · rw [sz_app, sz_app, sz_take, sz_drop, sz_map] at hx
            rcases List.mem_append.1 hx with hx | hx
            · rcases List.mem_append.1 hx with hx | hx
              · exact h.pos x (List.mem_of_mem_take hx)
              · exact chk1_pos h3 x hx
            · exact h.pos x (List.mem_of_mem_drop hx)
          · simp [sz] at hx
        · simp [sz] at hx
    · unfold insI; rw [if_neg h2, if_neg h3]; split <;> exact vr_none
theorem setI_setR {r : List (Int × Bool)} {i x : Int} (b : Bool) (h2 : ¬ (x < 1 ∨ 2305843009213693952 < x)) : setR (sz r) i x = (sz (setI r i x b).1, (setI r i x b).2) := by
  unfold setR setI
  rw [sz_len]
  split
  · rw [if_neg (show ¬ (x < 0 ∨ 2305843009213693952 < x) by omega)]
    split
    · rfl
    · rw [sz_set]
  · rfl
theorem setI_vr {r : List (Int × Bool)} (h : Vr r) (i x : Int) (b : Bool) : Vr (setI r i x b).1 := by
  by_cases h2 : x < 1 ∨ 2305843009213693952 < x
  · unfold setI; rw [if_pos h2]; split <;> exact vr_none
  · have h1 := setR_vd h.vd i x
    rw [setI_setR b h2] at h1
    refine ⟨h1, ?_, fun y hy => ?_⟩
    · unfold setI; split
      · split
        · simp
        · have := h.len; simp; omega
      · simp
    · unfold setI at hy
      split at hy
      · split at hy
        · simp [sz] at hy
        · rw [sz_set] at hy
          rcases List.mem_or_eq_of_mem_set hy with hy | rfl
          · exact h.pos y hy
          · omega
      · simp [sz] at hy
end Go.Proofs.Ytdejdnkkbpmmlaa
