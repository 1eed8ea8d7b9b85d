/- The walk of R's Of: sizes as plain data. -/
import Derived.Test.YtfkjnepafgehiaaFRefW
import Derived.Test.YtfkjnepafgehiaaSpreadW
import Derived.Test.YtfkjnepafgehiaaFNewW
import Derived.Maps.AppendAt
namespace Go.Proofs.Ytfkjnepafgehiaa
open Go.RowKit

/-- a list of integers as values -/
def iv (zs : List Int) : List Value := zs.map (Value.int .i64)
theorem iv_len (zs : List Int) : (iv zs).length = zs.length := by simp [iv]
theorem iv_one (zs : List Int) : ∀ u ∈ iv zs, u.oneCell' = true := by
  intro u hu
  obtain ⟨x, _, rfl⟩ := List.mem_map.1 hu
  rfl
theorem add_plain (b off i : Nat) : (⟨b, off, none⟩ : Addr).add i = ⟨b, off + i, none⟩ := by
  unfold Addr.add
  split <;> simp_all
theorem RdI.news {w : World} {B b o : Nat} {zs : List Int} (h : RdI w B (some ⟨b, o, none⟩) zs) : ∀ j u, (iv zs)[j]? = some u → w.cell? ((⟨b, o, none⟩ : Addr).add j) = some u := by
  intro j u hu
  obtain ⟨hj, rfl⟩ := List.getElem?_eq_some_iff.1 hu
  have hj' : j < zs.length := by simpa [iv] using hj
  obtain ⟨b', o', e, _, hc⟩ := h j hj'
  injection e with e
  injection e with e1 e2
  subst e1; subst e2
  rw [add_plain, hc]
  simp [iv]
theorem own_rd {w : World} {base n : Nat} {v : Value} {zs : List Int} (h : w.ownsRow base 2 1 v n (iv zs)) (hn : zs.length = n) : ∃ A c, v = .slice A n c ∧ n ≤ c ∧ c ≤ 9223372036854775807 ∧ RdI w w.heap.size A zs := by
  rcases h.2 with ⟨hv, hn0⟩ | ⟨g, cap, cur, hv, hb, hg, hnc, hcm, hcs, ht⟩
  · subst hn0
    have : zs = [] := List.eq_nil_of_length_eq_zero hn
    subst this
    exact ⟨none, 0, hv, Nat.le_refl _, by omega, RdI.nil⟩
  · refine ⟨_, _, hv, hnc, by unfold maxLen at hcm; omega, fun k hk => ⟨g, 0, rfl, (Array.getElem?_eq_some_iff.1 hg).1, ?_⟩⟩
    have := h.cells (g := g) (by rw [hv]; rfl) k (.int .i64 zs[k]) (by simp [iv, hk])
    rwa [add_plain] at this

/-- bytes that are read -/
def RdU (w : World) (B : Nat) (A : Option Addr) (us : List Nat) : Prop :=
  ∀ k (h : k < us.length), ∃ b o, A = some ⟨b, o, none⟩ ∧ b < B ∧ w.cell? ⟨b, o + k, none⟩ = some (.int .u8 (us[k] : Nat)) ∧ us[k] ≤ 255
theorem RdU.below {w w' : World} {B : Nat} {A : Option Addr} {us : List Nat} (h : RdU w B A us) (hb : Below B w w') : RdU w' B A us := fun k hl => by
  obtain ⟨b, o, e, hl2, h1, h2⟩ := h k hl
  exact ⟨b, o, e, hl2, (hb.cell (p := ⟨b, o + k, none⟩) hl2).trans h1, h2⟩
/-- the sizes of an R -/
def xo (us : List Nat) : List Int := (us.take 200).map fun u => ((u % 16 : Nat) : Int)
def xof (us : List Nat) (g : Bool) : List Int := if g = true ∧ 0 < (xo us).length then (xo us).set 0 2305843009213693952 else xo us
theorem xo_len (us : List Nat) : (xo us).length ≤ 200 := by simp [xo]; omega
theorem xof_len (us : List Nat) (g : Bool) : (xof us g).length = (xo us).length := by unfold xof; split <;> simp
theorem xo_small (us : List Nat) : ∀ x ∈ xo us, 0 ≤ x ∧ x ≤ 15 := by
  intro x hx
  obtain ⟨u, _, rfl⟩ := List.mem_map.1 hx
  omega
theorem sum_small {l : List Int} (h : ∀ x ∈ l, 0 ≤ x ∧ x ≤ 15) : 0 ≤ l.sum ∧ l.sum ≤ 15 * l.length := by
  induction l with
  | nil => simp
  | cons a r ih =>
    have h1 := h a (by simp)
    have h2 := ih fun x hx => h x (by simp [hx])
    simp only [List.sum_cons, List.length_cons]
    omega
theorem xof_vd (us : List Nat) (g : Bool) : Vd (xof us g) := by
  have h1 := xo_len us
  have h2 := sum_small (xo_small us)
  unfold xof
  split
  · rename_i h
    refine vd_of ⟨fun x hx => ?_, ?_, by rw [List.length_set]; omega⟩ fun x hx => ?_
    · rcases List.mem_or_eq_of_mem_set hx with h | h
      · exact (xo_small us x h).1
      · omega
    · cases hc : xo us with
      | nil => simp
      | cons a r =>
        rw [hc] at h2
        have h3 := xo_small us a (by rw [hc]; simp)
        have h4 : (xo us).length = r.length + 1 := by rw [hc]; rfl
        simp at h2 ⊢
        omega
    · rcases List.mem_or_eq_of_mem_set hx with h | h
      · have := xo_small us x h; omega
      · omega
  · exact vd_of ⟨fun x hx => (xo_small us x hx).1, by omega, by omega⟩ fun x hx => by have := xo_small us x hx; omega
theorem xo_succ {us : List Nat} {k : Nat} (h : k < us.length) : (us.take (k + 1)).map (fun u => ((u % 16 : Nat) : Int)) = (us.take k).map (fun u => ((u % 16 : Nat) : Int)) ++ [((us[k] % 16 : Nat) : Int)] := by
  rw [List.take_succ_eq_append_getElem h, List.map_append]
  rfl

/-- what R's Of hands back -/
def Rof (w : World) (l : List Int) (e : Ending) (w' : World) : Prop := ∃ A c, e = .returned (.slice A l.length c) ∧ l.length ≤ c ∧ c ≤ 9223372036854775807 ∧ RdI w' w'.heap.size A l ∧ Below w.heap.size w w'
/-- ahead of each round -/
structure RoI (w wr : World) (A : Option Addr) (us : List Nat) (c : Nat) (g : Bool) (n : Nat) (v : Value) : Prop where
  own : wr.ownsRow (w.heap.size + 1) 2 1 v n (iv ((us.take n).map fun u => ((u % 16 : Nat) : Int)))
  u : Below (w.heap.size + 1) (w.alloc (.cells #[.slice A us.length c, .bool g] 35)) wr
theorem RoI.box {w wr : World} {A : Option Addr} {us : List Nat} {c : Nat} {g : Bool} {n : Nat} {v : Value} (h : RoI w wr A us c g n v) : wr.cell? ⟨w.heap.size, 0, none⟩ = some (.slice A us.length c) ∧ wr.cell? ⟨w.heap.size, 1, none⟩ = some (.bool g) := by
  have hh := (h.u.block w.heap.size (by omega)).trans (heap_alloc_new w _)
  exact ⟨cell_of_row wr w.heap.size 0 _ 35 (0, 0) hh, cell_of_row wr w.heap.size 1 _ 35 (0, 0) hh⟩

theorem rof_same {w wr : World} {us : List Nat} {g : Bool} {n cap B : Nat} (hx : xof us g = xo us) (hl : (xo us).length = n) (hr : RdI wr wr.heap.size (some ⟨B, 0, none⟩) (xo us)) (hb : Below w.heap.size w wr) (hc : n ≤ cap) (hm : cap ≤ 9223372036854775807) :
    Rof w (xof us g) (.returned (.slice (some ⟨B, 0, none⟩) n cap)) wr := by
  rw [hx]
  exact ⟨_, cap, by rw [hl], by omega, hm, hr, hb⟩
theorem rof_set {w wr : World} {us : List Nat} {n cap B : Nat} {z : Int} (hx : xof us true = (xo us).set 0 2305843009213693952) (hl : (xo us).length = n) (hr : RdI wr wr.heap.size (some ⟨B, 0, none⟩) (xo us)) (hb : Below w.heap.size w wr) (hB : w.heap.size ≤ B)
    (hc : n ≤ cap) (hm : cap ≤ 9223372036854775807) (h0 : wr.cell? ⟨B, 0, none⟩ = some (.int .i64 z)) :
    Rof w (xof us true) (.returned (.slice (some ⟨B, 0, none⟩) n cap)) (wr.setCell ⟨B, 0, none⟩ (.int .i64 2305843009213693952)) := by
  rw [hx]
  refine ⟨_, cap, by rw [List.length_set, hl], by rw [List.length_set]; omega, hm, fun k hk => ?_, hb.setCell hB _⟩
  rw [List.length_set] at hk
  obtain ⟨b, o, e, hb2, h⟩ := hr k hk
  injection e with e
  injection e with e1 e2
  subst e1; subst e2
  refine ⟨B, 0, rfl, by simpa [World.setCell] using hb2, ?_⟩
  rcases Nat.eq_zero_or_pos k with h1 | h1
  · subst h1
    rw [World.cell?_setCell_same _ _ _ h0]
    simp
  · rw [World.cell?_setCell_other _ _ _ _ (by intro e; injection e with _ e; omega), h]
    rw [List.getElem_set_ne (by omega)]

set_option maxRecDepth 100000 in
set_option maxHeartbeats 2000000 in
theorem rOf_loop (A : Option Addr) (c : Nat) (us : List Nat) (g : Bool) (w : World) (hr : RdU w w.heap.size A us) (_hl : us.length ≤ c) (_hm : c ≤ 9223372036854775807) :
    Calls Try.prog 13 #[.agg #[.slice A us.length c, .bool g]] w (Rof w (xof us g)) := by
  obtain ⟨i0, hi0, hz0, hz1, hz2⟩ := info_parts Try.info2
  have HR := Lib.hid hr
  have H0 : Hid (RoI w (w.alloc (.cells #[.slice A us.length c, .bool g] 35)) A us c g 0 (.slice none 0 0)) := Lib.hid ⟨⟨by simp [iv], .inl ⟨rfl, rfl⟩⟩, Below.refl _ _⟩
  have HB0 := Lib.hid ((Below.refl w.heap.size w).alloc (Nat.le_refl _) (.cells #[.slice A us.length c, .bool g] 35))
  clear hr
  go_enter Try.func13, Try.ntmps13
  go_wp2_with fail
  go_loopw [3, 4] (fun v k wr => ∃ n : Nat, n ≤ us.length ∧ n ≤ 200 ∧ k = .int .i64 n ∧ Hid (RoI w wr A us c g n v)) (fun _ k _ => us.length - (intOf k).toNat)
  case atStart => exact ⟨0, Nat.zero_le _, Nat.zero_le _, rfl, H0⟩
  case round =>
    obtain ⟨n, hn, hn2, rfl, HI⟩ := hrel
    obtain ⟨x0, x1⟩ := HI.out.box
    by_cases hlt : n < us.length ∧ n < 200
    · obtain ⟨hlt, hlt2⟩ := hlt
      have hrb : RdU wr w.heap.size A us := (HR.out.below HB0.out).below (HI.out.u.mono (by omega))
      obtain ⟨b, o, rfl, hb, hc, hu⟩ := hrb n hlt
      have HS := Lib.hid (xo_succ hlt)
      have hsz := HI.out.u.size
      have hsz2 : w.heap.size + 1 ≤ wr.heap.size := by simpa using hsz
      have hin : (n : Int) < (us.length : Int) := by omega
      have hown := HI.out.own
      have hub := HI.out.u
      clear HI hrb hsz
      generalize us[n] = u at *
      have hq : ((u : Int) % 16) = ((u % 16 : Nat) : Int) := by omega
      have hq2 : u % 16 ≤ 15 := by omega
      generalize u % 16 = q at *
      obtain ⟨xs, hxs⟩ : ∃ xs, iv ((us.take n).map fun u => ((u % 16 : Nat) : Int)) = xs := ⟨_, rfl⟩
      rw [hxs] at hown
      have HX := Lib.hid hxs
      clear hxs
      go_wp2_with (at_builtin; refine wpList_append_own_at _ rfl (.tmp 16) (.tmp 24) _ rfl (w.heap.size + 1) 2 i0 (.int .i64 0) 1 8 Try.underlying22 hi0 hz0 hz1 hz2 rfl (by omega) u3 n xs rfl (World.ownsRow.alloc hown _) ⟨wr.heap.size, 0, none⟩ 1 1 [.int .i64 (q : Int)] rfl rfl (World.news_of_block (cs := #[.int .i64 (q : Int)]) (t := 2) (fr := (0, 0)) (heap_alloc_new wr _)) (by simp [Value.oneCell']) (by simp [maxLen]; omega) (by omega) (by simp; omega) ?_; intro v2 w2 hown2 hg2 _ hat)
      have hn1 : RoI w w2 (some ⟨b, o, none⟩) us c g (n + 1) v2 := ⟨by rw [HS.out]; unfold iv at HX ⊢; rw [List.map_append, HX.out]; exact hown2, (hub.alloc (by simpa using hsz2) _).grown hg2 (by simp; omega) (fun j e => (hown.lt j e).1)⟩
      have HN1 := Lib.hid hn1
      clear hn1 hown2 hg2 hat hown hub
      go_roundw
      case rel => exact ⟨n + 1, by omega, by omega, by go_num, HN1⟩
      case measure => simp [intOf]; omega
    · have ht : (us.take n).map (fun u => ((u % 16 : Nat) : Int)) = xo us := by
        unfold xo
        have e : us.take n = us.take 200 := by rw [List.take_eq_take_iff]; omega
        rw [e]
      have hown := HI.out.own
      have hub := HI.out.u
      rw [ht] at hown
      have hub2 : Below w.heap.size w wr := HB0.out.trans ((hub.mono (Nat.le_succ _)).mono (by simp))
      have hxl : (xo us).length = n := by have := congrArg List.length ht; simp at this; omega
      have hn0 : ¬ (n < us.length ∧ n < 200) := hlt
      clear HI ht hub
      rcases hown.2 with ⟨rfl, rfl⟩ | ⟨B, cap, cur, rfl, hB, hH, hnc, hcm, hcs, htk⟩
      · have hx0 : xof us g = [] := by
          have : xo us = [] := List.eq_nil_of_length_eq_zero hxl
          unfold xof; rw [this]; simp
        have HX0 := Lib.hid hx0
        have HB2 := Lib.hid hub2
        have hu0 : us.length = 0 := by rcases Nat.eq_zero_or_pos us.length with h | h; exact h; exact absurd ⟨h, by omega⟩ hn0
        have e0 : decide (0 < us.length) = false := decide_eq_false (by omega)
        clear hx0 hub2 hown hn0 hlt hxl hu0 hn
        cases g
        all_goals
          go_wp2_with fail
          go_ret
          refine ⟨none, 0, by rw [HX0.out]; rfl, by rw [HX0.out]; exact Nat.le_refl _, by omega, by rw [HX0.out]; exact RdI.nil, HB2.out⟩
      · have hrd : RdI wr wr.heap.size (some ⟨B, 0, none⟩) (xo us) := fun k hk => ⟨B, 0, rfl, heap_lt hH, by
          have := hown.cells (g := B) rfl k (.int .i64 (xo us)[k]) (by simp [iv, hk])
          rwa [add_plain] at this⟩
        have HRD := Lib.hid hrd
        have HB2 := Lib.hid hub2
        have HXL := Lib.hid hxl
        have hcm2 : cap ≤ 9223372036854775807 := by unfold maxLen at hcm; omega
        have hBw : w.heap.size ≤ B := by omega
        have HW := Lib.hid hn0
        have hnn : n ≤ cap := hnc
        by_cases hg : g = true ∧ 0 < n
        · obtain ⟨rfl, hp⟩ := hg
          have hc0 : wr.cell? ⟨B, 0, none⟩ = some (.int .i64 (xo us)[0]) := by
            obtain ⟨b, o, e, _, h⟩ := hrd 0 (by omega)
            injection e with e
            injection e with e1 e2
            subst e1; subst e2
            exact h
          have hf0 : wr.frozen? ⟨B, 0, none⟩ = false := by simp [World.frozen?, hH]
          have HXX : Hid (xof us true = (xo us).set 0 2305843009213693952) := Lib.hid (by unfold xof; rw [if_pos ⟨rfl, by omega⟩])
          obtain ⟨z, hz⟩ : ∃ z, (xo us)[0] = z := ⟨_, rfl⟩
          rw [hz] at hc0
          have HH := Lib.hid hH
          have HC := Lib.hid hc0
          clear hrd hub2 hown hxl hlt hcs htk hcm hH hz
          rcases Nat.lt_or_ge n us.length with h1 | h1
          · have h2 : 200 ≤ n := by rcases Nat.lt_or_ge n 200 with h | h; exact absurd ⟨h1, h⟩ HW.out; exact h
            clear hn0
            go_wp2_with fail
            go_ret
            exact rof_set HXX.out HXL.out HRD.out HB2.out hBw hnn hcm2 HC.out
          · clear hn0
            go_wp2_with fail
            go_ret
            exact rof_set HXX.out HXL.out HRD.out HB2.out hBw hnn hcm2 HC.out
        · have HXX : Hid (xof us g = xo us) := Lib.hid (by unfold xof; rw [if_neg (by rw [hxl]; exact hg)])
          clear hrd hub2 hown hxl hlt hcs htk hcm hH
          cases g
          · clear hg
            rcases Nat.lt_or_ge n us.length with h1 | h1
            · have h2 : 200 ≤ n := by rcases Nat.lt_or_ge n 200 with h | h; exact absurd ⟨h1, h⟩ HW.out; exact h
              clear hn0
              go_wp2_with fail
              go_ret
              exact rof_same HXX.out HXL.out HRD.out HB2.out hnn hcm2
            · clear hn0
              go_wp2_with fail
              go_ret
              exact rof_same HXX.out HXL.out HRD.out HB2.out hnn hcm2
          · have hg2 : ¬ 0 < n := fun h => hg ⟨rfl, h⟩
            obtain rfl : n = 0 := by omega
            have h1 : us.length ≤ 0 := by rcases Nat.eq_zero_or_pos us.length with h | h; omega; exact absurd ⟨h, by omega⟩ HW.out
            have e0 : decide (0 < us.length) = false := decide_eq_false (by omega)
            clear hg hg2 hn0
            go_wp2_with fail
            go_ret
            exact rof_same HXX.out HXL.out HRD.out HB2.out hnn hcm2
end Go.Proofs.Ytfkjnepafgehiaa
