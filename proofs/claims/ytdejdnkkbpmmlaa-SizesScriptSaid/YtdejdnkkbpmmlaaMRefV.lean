/- The list's Set. -/
import Derived.Test.YtdejdnkkbpmmlaaMRefA
namespace Go.Proofs.Ytdejdnkkbpmmlaa
open Go.RowKit

theorem RdR.part {w : World} {B : Nat} {A : Option Addr} {l : List (Int × Bool)} (h : RdR w B A l) (m : Nat) : RdR w B A (l.take m) := fun k hk => by
  have hk' : k < l.length := by rw [List.length_take] at hk; omega
  obtain ⟨b, o, e, hb, hc, hd⟩ := h k hk'
  exact ⟨b, o, e, hb, by rw [hc, List.getElem_take], by rw [hd, List.getElem_take]⟩
theorem RdR.cut {W : World} {B c : Nat} {A : Option Addr} {l : List (Int × Bool)} (h : RdR W B A l) (hc : l.length ≤ c) (i : Nat) : RdR W B (if c = i then A else A.map fun x => x.add (i * 2)) (l.drop i) := fun k hk => by
  rw [List.length_drop] at hk
  obtain ⟨b, o, e, h1, h2, h3⟩ := h (i + k) (by omega)
  subst e
  rw [if_neg (by omega)]
  refine ⟨b, o + i * 2, ?_, h1, ?_, ?_⟩
  · show some ((⟨b, o, none⟩ : Addr).add (i * 2)) = _
    rw [add_plain]
  · rw [show o + i * 2 + k * 2 = o + (i + k) * 2 by omega, h2, List.getElem_drop]
  · rw [show o + i * 2 + k * 2 + 1 = o + (i + k) * 2 + 1 by omega, h3, List.getElem_drop]
theorem SlR.head {w : World} {A : Option Addr} {c : Nat} {l : List (Int × Bool)} (h : SlR w A c l) (i : Nat) : SlR w A c (l.take i) := ⟨h.rd.part i, by have := h.le; rw [List.length_take]; omega, h.max, h.nil⟩
theorem SlR.rest {w : World} {A : Option Addr} {c : Nat} {l : List (Int × Bool)} (h : SlR w A c l) (i : Nat) (hi : i ≤ l.length) : SlR w (if c = i then A else A.map fun x => x.add (i * 2)) (c - i) (l.drop i) :=
  ⟨h.rd.cut h.le i, by have := h.le; rw [List.length_drop]; omega, by have := h.max; omega, fun hA => by
    by_cases hc : c = i
    · omega
    · rw [if_neg hc] at hA
      cases A with
      | none => have := h.nil rfl; omega
      | some a => cases hA⟩
theorem madeR0 (w : World) : OwnR (w.alloc (.cells #[] 42)) w.heap.size (.slice (some ⟨w.heap.size, 0, none⟩) 0 0) [] := World.ownsRow_made w #[] 0 (Nat.le_refl _) (by simp [maxLen]) rfl
theorem OwnR.le {w : World} {base base' : Nat} {v : Value} {l : List (Int × Bool)} (h : OwnR w base v l) (hb : base' ≤ base) : OwnR w base' v l := by
  refine ⟨h.1, ?_⟩
  rcases h.2 with h2 | ⟨g, cap, cur, hv, hg, r⟩
  · exact .inl h2
  · exact .inr ⟨g, cap, cur, hv, Nat.le_trans hb hg, r⟩

/-- a new row and an error are returned -/
def RowN (r : List (Int × Bool) × Int) (w : World) (e : Ending) (w' : World) : Prop := ∃ A c, e = .returned (.tuple #[.slice A r.1.length c, .int .i64 r.2]) ∧ SlR w' A c r.1 ∧ Below w.heap.size w w' ∧ ∀ a, A = some a → w.heap.size ≤ a.block
theorem rowN_err {f : Int} {w : World} : RowN ([], f) w (.returned (.tuple #[.slice none 0 0, .int .i64 f])) w := ⟨none, 0, rfl, ⟨RdR.nil, Nat.le_refl _, by omega, fun _ => rfl⟩, Below.refl _ _, fun _ h => by cases h⟩
theorem rowN_own {l : List (Int × Bool)} {w W : World} {v : Value} (h : OwnR W w.heap.size v l) (hb : Below w.heap.size w W) : RowN (l, 0) w (.returned (.tuple #[v, .int .i64 0])) W := by
  obtain ⟨A, c, rfl, hs, hf⟩ := h.sl
  exact ⟨A, c, rfl, hs, hb, hf⟩
set_option maxRecDepth 100000 in
set_option maxHeartbeats 2000000 in
theorem refRem_bad {w : World} {A : Option Addr} {c : Nat} {l : List (Int × Bool)} (i n : Int) (hi2 : i ≤ 9223372036854775807) (_hn2 : n ≤ 9223372036854775807) (_hl : l.length ≤ 4096) (h : i < 0 ∨ n < 0 ∨ (l.length : Int) - i < n) :
    Calls Try.prog 21 #[.slice A l.length c, .int .i64 i, .int .i64 n] w (RowN ([], 4) w) := by
  rcases (show i < 0 ∨ (¬ (i < 0) ∧ n < 0) ∨ (¬ (i < 0) ∧ ¬ (n < 0) ∧ (l.length : Int) < i) ∨ (¬ (i < 0) ∧ ¬ (n < 0) ∧ ¬ ((l.length : Int) < i) ∧ (l.length : Int) - i < n) by omega) with h | ⟨h, h2⟩ | ⟨h, h2, h3⟩ | ⟨h, h2, h3, h4⟩
  all_goals
    go_enter Try.func21, Try.ntmps21
    go_wp2_with fail
    go_ret2
    exact rowN_err
set_option maxRecDepth 100000 in
set_option maxHeartbeats 4000000 in
theorem refRem_ok {w : World} {A : Option Addr} {c : Nat} {l : List (Int × Bool)} (h : SlR w A c l) (i n : Nat) (hi : i + n ≤ l.length) (hl : l.length ≤ 4096) :
    Calls Try.prog 21 #[.slice A l.length c, .int .i64 i, .int .i64 n] w (RowN (l.take i ++ l.drop (i + n), 0) w) := by
  have hle := h.le
  have hmx := h.max
  have HS := Lib.hid h
  have hti : (l.take i).length = i := by rw [List.length_take]; omega
  obtain ⟨q, hq⟩ : ∃ q : Nat, i + n = q := ⟨_, rfl⟩
  have hql : q ≤ l.length := by omega
  have hdl : (l.drop q).length = l.length - q := List.length_drop
  have HO : Hid (OwnR ((w.alloc (.cells #[] 42)).drew) w.heap.size (.slice (some ⟨w.heap.size, 0, none⟩) 0 0) []) := Lib.hid (madeR0 w)
  have HB : Hid (Below w.heap.size w ((w.alloc (.cells #[] 42)).drew)) := Lib.hid ((Below.refl w.heap.size w).alloc (Nat.le_refl _) _).drew
  have HS0 := Lib.hid ((HS.out.below HB.out).head i)
  obtain ⟨A2, hA2⟩ : ∃ A2, (if c = q then A else A.map fun x => x.add (q * 2)) = A2 := ⟨_, rfl⟩
  have HP : Hid (∀ w', Below w.heap.size w w' → SlR w' A2 (c - q) (l.drop q)) := Lib.hid (fun w' hb => by
    have := (HS.out.below hb).rest q hql
    rw [hA2] at this
    exact this)
  have HQ := Lib.hid hq
  rw [hq]
  clear h
  go_enter Try.func21, Try.ntmps21
  go_wp2_with fail
  have hwq : IntKind.i64.wrap ((i : Int) + (n : Int)) = (q : Int) := by rw [← Int.natCast_add, HQ.out]; exact IntWalk.i64_in _ (by omega)
  have z0 : (0 : Int) ≤ (i : Int) := by omega
  have z1 : (i : Int) ≤ (c : Int) := by omega
  have z2 : (0 : Int) ≤ (q : Int) := by omega
  have z3 : (q : Int) ≤ (l.length : Int) := by omega
  clear hq
  go_region_law (first
      | (refine step_appR rfl (.tmp 28) (.tmp 31) rfl w.heap.size _ [] rfl A c (l.take i) i rfl hti.symm HO.out HS0.out (by simp; omega) HB.out.size ?_
         intro v1 w1 H1 B1)
      | (refine step_appR rfl (.tmp 32) (.tmp 37) rfl w.heap.size v1 ([] ++ l.take i) rfl A2 (c - q) (l.drop q) (l.length - q) rfl hdl.symm H1.out (HP.out _ (HB.out.trans B1.out)) (by simp only [List.nil_append]; omega) (HB.out.trans B1.out).size ?_
         intro v3 w3 H3 B3))
  go_wp2_with fail
  go_ret2
  exact rowN_own (by have := H3.out; rwa [List.nil_append] at this) ((HB.out.trans B1.out).trans B3.out)
theorem refRem_any {w : World} {A : Option Addr} {c : Nat} {l : List (Int × Bool)} (h : SlR w A c l) (i n : Int) (hi2 : i ≤ 9223372036854775807) (hn2 : n ≤ 9223372036854775807) (hl : l.length ≤ 4096) :
    Calls Try.prog 21 #[.slice A l.length c, .int .i64 i, .int .i64 n] w (RowN (remI l i n) w) := by
  unfold remI
  rcases partE_two l.length i n with hp | hp
  · rw [if_pos hp]
    obtain ⟨a, b, rfl, rfl, hab⟩ := partE_cases hp
    exact refRem_ok h a b hab hl
  · rw [if_neg (by rw [hp]; decide)]
    refine refRem_bad i n hi2 hn2 hl ?_
    unfold partE at hp
    split at hp
    · assumption
    · exact absurd hp (by decide)

set_option maxRecDepth 100000 in
set_option maxHeartbeats 2000000 in
theorem refMov_bad {w : World} {A : Option Addr} {c : Nat} {l : List (Int × Bool)} (h : SlR w A c l) (i n x : Int) (hi2 : i ≤ 9223372036854775807) (hn2 : n ≤ 9223372036854775807) (hl : l.length ≤ 4096) (hb : partE l.length i n = 4) :
    Calls Try.prog 23 #[.slice A l.length c, .int .i64 i, .int .i64 n, .int .i64 x] w (RowN ([], 4) w) := by
  have hR := refRem_any h i n hi2 hn2 hl
  unfold RowN remI at hR
  rw [if_neg (by rw [hb]; decide)] at hR
  have HR := Lib.hid hR
  clear h hR hb
  go_enter Try.func23, Try.ntmps23
  go_wp2_with fail
  refine HR.out.mono ?_
  rintro e w1 ⟨A1, c1, rfl, _, kk, _⟩
  go_wp2_with fail
  go_ret2
  exact ⟨none, 0, rfl, ⟨RdR.nil, Nat.le_refl _, by omega, fun _ => rfl⟩, kk, fun _ h => by cases h⟩
set_option maxRecDepth 100000 in
set_option maxHeartbeats 2000000 in
theorem refMov_far {w : World} {A : Option Addr} {c : Nat} {l : List (Int × Bool)} (h : SlR w A c l) (i n : Nat) (x : Int) (hi : i + n ≤ l.length) (hx2 : x ≤ 9223372036854775807) (hl : l.length ≤ 4096) (hb : x < 0 ∨ (l.length : Int) - n < x) :
    Calls Try.prog 23 #[.slice A l.length c, .int .i64 i, .int .i64 n, .int .i64 x] w (RowN ([], 4) w) := by
  have hR := refRem_ok h i n hi hl
  unfold RowN at hR
  have hm : (l.take i ++ l.drop (i + n)).length = l.length - n := by rw [List.length_append, List.length_take, List.length_drop]; omega
  generalize l.take i ++ l.drop (i + n) = m at *
  have HR := Lib.hid hR
  clear h hR
  rcases (show x < 0 ∨ (¬ (x < 0) ∧ (m.length : Int) < x) by omega) with h | ⟨h, h2⟩
  all_goals
    clear hm hb
    go_enter Try.func23, Try.ntmps23
    go_wp2_with fail
    refine HR.out.mono ?_
    rintro e w1 ⟨A1, c1, rfl, _, kk, _⟩
    go_wp2_with fail
    go_ret2
    exact ⟨none, 0, rfl, ⟨RdR.nil, Nat.le_refl _, by omega, fun _ => rfl⟩, kk, fun _ h => by cases h⟩
set_option maxRecDepth 100000 in
set_option maxHeartbeats 4000000 in
theorem refMov_ok {w : World} {A : Option Addr} {c : Nat} {l : List (Int × Bool)} (h : SlR w A c l) (i n x : Nat) (hi : i + n ≤ l.length) (hx : x ≤ l.length - n) (hl : l.length ≤ 4096) :
    Calls Try.prog 23 #[.slice A l.length c, .int .i64 i, .int .i64 n, .int .i64 x] w (RowN ((l.take i ++ l.drop (i + n)).take x ++ (l.drop i).take n ++ (l.take i ++ l.drop (i + n)).drop x, 0) w) := by
  have hR := refRem_ok h i n hi hl
  unfold RowN at hR
  have hm : (l.take i ++ l.drop (i + n)).length = l.length - n := by rw [List.length_append, List.length_take, List.length_drop]; omega
  generalize l.take i ++ l.drop (i + n) = m at *
  have hle := h.le
  have hmx := h.max
  have HA := Lib.hid h
  have HR := Lib.hid hR
  have htx : (m.take x).length = x := by rw [List.length_take]; omega
  have hdx : (m.drop x).length = m.length - x := List.length_drop
  obtain ⟨q, hq⟩ : ∃ q : Nat, i + n = q := ⟨_, rfl⟩
  have hpn : ((l.drop i).take n).length = q - i := by rw [List.length_take, List.length_drop]; omega
  obtain ⟨A2, hA2⟩ : ∃ A2, (if c = i then A else A.map fun x => x.add (i * 2)) = A2 := ⟨_, rfl⟩
  have HP : Hid (∀ w', Below w.heap.size w w' → SlR w' A2 (c - i) ((l.drop i).take n)) := Lib.hid (fun w' hb => by
    have := ((HA.out.below hb).rest i (by omega)).head n
    rw [hA2] at this
    exact this)
  have HQ := Lib.hid hq
  have hm4 : m.length ≤ 4096 := by omega
  have hxm : x ≤ m.length := by omega
  have hwq : IntKind.i64.wrap ((i : Int) + (n : Int)) = (q : Int) := by rw [← Int.natCast_add, HQ.out]; exact IntWalk.i64_in _ (by omega)
  have hiq : i ≤ q := by omega
  have hqc : q ≤ c := by omega
  have hql : q ≤ l.length := by omega
  clear h hR hm hq hi hx
  go_enter Try.func23, Try.ntmps23
  go_wp2_with fail
  refine HR.out.mono ?_
  rintro e w1 ⟨A1, c1, rfl, hs1, kk, _⟩
  have hle1 := hs1.le
  have hsz := kk.size
  have hb1 := (below_new w1 (.cells #[] 42)).drew
  have hbb := kk.trans (hb1.mono kk.size)
  have HO : Hid (OwnR ((w1.alloc (.cells #[] 42)).drew) w1.heap.size (.slice (some ⟨w1.heap.size, 0, none⟩) 0 0) []) := Lib.hid (madeR0 w1)
  have HB1 := Lib.hid hb1
  have HB := Lib.hid hbb
  have HM := Lib.hid hs1
  obtain ⟨D2, hD2⟩ : ∃ D2, (if c1 = x then A1 else A1.map fun a => a.add (x * 2)) = D2 := ⟨_, rfl⟩
  have HM0 := Lib.hid ((hs1.below hb1).head x)
  have HM2 : Hid (∀ w', Below w1.heap.size w1 w' → SlR w' D2 (c1 - x) (m.drop x)) := Lib.hid (fun w' hb => by
    have := (HM.out.below hb).rest x hxm
    rw [hD2] at this
    exact this)
  have z0 : (0 : Int) ≤ (x : Int) := by omega
  have z1 : (x : Int) ≤ (c1 : Int) := by omega
  have z2 : (0 : Int) ≤ (i : Int) := by omega
  have z3 : (i : Int) ≤ (q : Int) := by omega
  have z4 : (q : Int) ≤ (c : Int) := by omega
  have z5 : (x : Int) ≤ (m.length : Int) := by omega
  have d1 : decide ((x : Int) < 0) = false := decide_eq_false (by omega)
  have d2 : decide ((m.length : Int) < (x : Int)) = false := decide_eq_false (by omega)
  clear hb1 hbb kk hs1
  go_upto_region 4 with fail
  go_region_law (first
      | (refine step_appR rfl (.tmp 32) (.tmp 35) rfl w1.heap.size _ [] rfl A1 c1 (m.take x) x rfl htx.symm HO.out HM0.out (by simp; omega) HB1.out.size ?_
         intro v1 w2 H1 B1)
      | (refine step_appR rfl (.tmp 36) (.tmp 42) rfl w1.heap.size v1 ([] ++ m.take x) rfl A2 (c - i) ((l.drop i).take n) (q - i) rfl hpn.symm H1.out (HP.out _ (HB.out.trans (B1.out.mono hsz))) (by simp only [List.nil_append]; omega) (HB1.out.trans B1.out).size ?_
         intro v2 w3 H2 B2))
  go_wp2_with (
    at_builtin
    refine wp_appR rfl (.tmp 44) (.tmp 47) rfl w1.heap.size v2 ([] ++ m.take x ++ (l.drop i).take n) rfl D2 (c1 - x) (m.drop x) _ rfl hdx.symm H2.out (HM2.out _ ((HB1.out.trans B1.out).trans B2.out)) (by simp only [List.nil_append, List.length_append]; omega) ((HB1.out.trans B1.out).trans B2.out).size ?_
    intro v3 w4 H3 B3)
  go_ret2
  exact rowN_own (by have := H3.out.le hsz; rwa [List.nil_append] at this) (((HB.out.trans (B1.out.mono hsz)).trans (B2.out.mono hsz)).trans (B3.out.mono hsz))
theorem refMov_any {w : World} {A : Option Addr} {c : Nat} {l : List (Int × Bool)} (h : SlR w A c l) (i n x : Int) (hi2 : i ≤ 9223372036854775807) (hn2 : n ≤ 9223372036854775807) (hx2 : x ≤ 9223372036854775807) (hl : l.length ≤ 4096) :
    Calls Try.prog 23 #[.slice A l.length c, .int .i64 i, .int .i64 n, .int .i64 x] w (RowN (movI l i n x) w) := by
  unfold movI
  rcases partE_two l.length i n with hp | hp
  · rw [if_pos hp]
    obtain ⟨a, b, rfl, rfl, hab⟩ := partE_cases hp
    by_cases hx : partE (l.length - (b : Int).toNat) x 0 = 0
    · rw [if_pos hx]
      obtain ⟨y, z, rfl, hz, hyz⟩ := partE_cases hx
      exact refMov_ok h a b y hab (by simp at hyz; omega) hl
    · rw [if_neg hx]
      refine refMov_far h a b x hab hx2 hl ?_
      unfold partE at hx
      split at hx
      · rename_i hh
        simp at hh
        omega
      · exact absurd rfl hx
  · rw [if_neg (by rw [hp]; decide)]
    exact refMov_bad h i n x hi2 hn2 hl hp
end Go.Proofs.Ytdejdnkkbpmmlaa

namespace Go.Proofs.Ytdejdnkkbpmmlaa
open Go.RowKit

/-- a size behind a sum -/
def flt (x sum : Int) : Int := if x < 1 ∨ 2305843009213693952 < x then 12 else if 4611686018427387904 < sum + x then 13 else 0
set_option maxRecDepth 100000 in
set_option maxHeartbeats 2000000 in
theorem fault_any (x sum : Int) (w : World) (h0 : 0 ≤ sum) (h1 : sum ≤ 4611686018427387904) : Calls Try.prog 34 #[.int .i64 x, .int .i64 sum] w fun e w' => e = .returned (.int .i64 (flt x sum)) ∧ w = w' := by
  unfold flt
  have a1 : IntKind.i64.wrap (4611686018427387904 - sum) = 4611686018427387904 - sum := IntWalk.i64_in _ (by omega)
  by_cases g1 : x < 1
  · rw [if_pos (Or.inl g1)]
    go_enter Try.func34, Try.ntmps34
    go_wp2_with fail
    go_ret
    exact ⟨rfl, rfl⟩
  · by_cases g2 : 2305843009213693952 < x
    · rw [if_pos (Or.inr g2)]
      go_enter Try.func34, Try.ntmps34
      go_wp2_with fail
      go_ret
      exact ⟨rfl, rfl⟩
    · rw [if_neg (by omega)]
      by_cases g3 : 4611686018427387904 < sum + x
      · rw [if_pos g3]
        have g4 : 4611686018427387904 - sum < x := by omega
        clear g3 h0 h1
        go_enter Try.func34, Try.ntmps34
        go_wp2_with fail
        go_ret
        exact ⟨rfl, rfl⟩
      · rw [if_neg g3]
        have g4 : ¬ 4611686018427387904 - sum < x := by omega
        clear g3 h0 h1
        go_enter Try.func34, Try.ntmps34
        go_wp2_with fail
        go_ret
        exact ⟨rfl, rfl⟩
set_option maxRecDepth 100000 in
set_option maxHeartbeats 2000000 in
theorem refIns_bad {w : World} {A S : Option Addr} {c d : Nat} {l : List (Int × Bool)} {s : List Int} (i : Int) (b : Bool) (hi2 : i ≤ 9223372036854775807) (_hl : l.length ≤ 1024) (h : i < 0 ∨ (l.length : Int) < i) :
    Calls Try.prog 19 #[.slice A l.length c, .int .i64 i, .slice S s.length d, .bool b] w (RowN ([], 4) w) := by
  rcases (show i < 0 ∨ (¬ (i < 0) ∧ (l.length : Int) < i) by omega) with h | ⟨h, h2⟩
  all_goals
    go_enter Try.func19, Try.ntmps19
    go_wp2_with fail
    go_ret2
    exact rowN_err
set_option maxRecDepth 100000 in
set_option maxHeartbeats 2000000 in
theorem refIns_lim {w : World} {A S : Option Addr} {c d : Nat} {l : List (Int × Bool)} {s : List Int} (i : Nat) (b : Bool) (hi : i ≤ l.length) (hl : l.length ≤ 1024) (hsl : s.length ≤ 1000) (h : 1024 < l.length + s.length) :
    Calls Try.prog 19 #[.slice A l.length c, .int .i64 i, .slice S s.length d, .bool b] w (RowN ([], 3) w) := by
  have z0 : ¬ ((i : Int) < 0) := by omega
  have z1 : ¬ ((l.length : Int) < (i : Int)) := by omega
  obtain ⟨q, hq⟩ : ∃ q : Nat, l.length + s.length = q := ⟨_, rfl⟩
  have a1 : IntKind.i64.wrap ((l.length : Int) + (s.length : Int)) = (q : Int) := by rw [← Int.natCast_add, hq]; exact IntWalk.i64_in _ (by omega)
  have z2 : (1024 : Int) < (q : Int) := by omega
  clear hq h
  go_enter Try.func19, Try.ntmps19
  go_wp2_with fail
  go_ret2
  exact rowN_err
/-- ahead of each round -/
structure InI (w wr : World) (base : Nat) (A S : Option Addr) (c d : Nat) (l : List (Int × Bool)) (s : List Int) (i j : Nat) (b : Bool) (v : Value) (acc : Int) : Prop where
  own : OwnR wr base v (l.take i ++ (s.take j).map fun x => (x, b))
  u : Below w.heap.size w wr
  bs : base ≤ wr.heap.size
  sum : (s.take j).sum = acc
  lo : 0 ≤ acc
  hi : acc ≤ 4611686018427387904
  chk : chk1 s = chk1F acc (s.drop j)
theorem rdI_keep {w w' : World} {A : Option Addr} {s : List Int} (h : RdI w w.heap.size A s) (kk : Below w.heap.size w w') : RdI w' w'.heap.size A s := fun k hk => by
  obtain ⟨b, o, e, h1, h2⟩ := h k hk
  exact ⟨b, o, e, Nat.lt_of_lt_of_le h1 kk.size, (kk.cell (p := ⟨b, _, none⟩) h1).trans h2⟩
set_option maxRecDepth 100000 in
set_option maxHeartbeats 8000000 in
theorem refIns_in {w : World} {A S : Option Addr} {c d : Nat} {l : List (Int × Bool)} {s : List Int} (h : SlR w A c l) (hs : RdI w w.heap.size S s) (hv : Vr l) (i : Nat) (b : Bool) (hi : i ≤ l.length) (hsl : l.length + s.length ≤ 1024) (R : List (Int × Bool) × Int)
    (hR : R = if chk1 s = 0 then if joinE (sz l) s = 0 then (l.take i ++ (s.map fun x => (x, b)) ++ l.drop i, 0) else ([], 13) else ([], chk1 s)) :
    Calls Try.prog 19 #[.slice A l.length c, .int .i64 i, .slice S s.length d, .bool b] w (RowN R w) := by
  have HRR := Lib.hid hR
  clear hR
  have hle := h.le
  have hmx := h.max
  have hln := hv.len
  have HA := Lib.hid h
  have HS := Lib.hid hs
  have HV := Lib.hid hv
  have hti : (l.take i).length = i := by rw [List.length_take]; omega
  have hb1 := below_new w (.cells #[] 42)
  have HO := Lib.hid (madeR0 w)
  have HB := Lib.hid hb1
  have HS0 := Lib.hid ((HA.out.below hb1).head i)
  have z0 : (0 : Int) ≤ (i : Int) := by omega
  have z1 : (i : Int) ≤ (c : Int) := by omega
  have z3 : ¬ ((l.length : Int) < (i : Int)) := by omega
  obtain ⟨q, hq⟩ : ∃ q : Nat, l.length + s.length = q := ⟨_, rfl⟩
  have a1 : IntKind.i64.wrap ((l.length : Int) + (s.length : Int)) = (q : Int) := by rw [← Int.natCast_add, hq]; exact IntWalk.i64_in _ (by omega)
  have z2 : ¬ ((1024 : Int) < (q : Int)) := by omega
  clear h hs hv hb1 hq
  go_enter Try.func19, Try.ntmps19
  go_wp2_with (
    at_builtin
    refine wp_appR rfl (.tmp 28) (.tmp 31) rfl w.heap.size _ [] rfl A c (l.take i) _ rfl hti.symm HO.out HS0.out (by simp; omega) (by simp) ?_
    intro v1 w1 H1 B1)
  have HI0 := Lib.hid (show InI w w1 w.heap.size A S c d l s i 0 b v1 0 from ⟨by have := H1.out; simpa using this, HB.out.trans B1.out, (HB.out.trans B1.out).size, rfl, by decide, by decide, rfl⟩)
  clear H1 B1 HO HS0 HB z2 a1
  go_wp2_with fail
  go_loopw [10, 11, 12] (fun v acc k wr => ∃ (j : Nat) (ac : Int), j ≤ s.length ∧ k = .int .i64 j ∧ acc = .int .i64 ac ∧ Hid (InI w wr w.heap.size A S c d l s i j b v ac)) (fun _ _ k _ => s.length - (intOf k).toNat)
  case atStart => exact ⟨0, 0, Nat.zero_le _, rfl, rfl, HI0⟩
  case round =>
    clear HI0
    obtain ⟨j, ac, hj, rfl, rfl, HI⟩ := hrel
    have h0 := HI.out.lo
    have h1 := HI.out.hi
    by_cases hlt : j < s.length
    · obtain ⟨bb, o, rfl, _, hcl⟩ := (rdI_keep HS.out HI.out.u) j hlt
      have hst : s.take (j + 1) = s.take j ++ [s[j]] := List.take_succ_eq_append_getElem hlt
      have hsd : s.drop j = s[j] :: s.drop (j + 1) := List.drop_eq_getElem_cons hlt
      have hck := HI.out.chk
      have hsm := HI.out.sum
      rw [hsd, chk1F_cons] at hck
      obtain ⟨x, hx⟩ : ∃ x, s[j] = x := ⟨_, rfl⟩
      rw [hx] at hst hck hcl
      have hsm2 : (s.take (j + 1)).sum = ac + x := by rw [hst, List.sum_append, hsm]; simp
      have HF := Lib.hid (fault_any x ac wr h0 h1)
      by_cases hf : flt x ac = 0
      · rw [hf] at HF
        have hxx : ¬ (x < 1 ∨ 2305843009213693952 < x) ∧ ¬ 4611686018427387904 < ac + x := by
          unfold flt at hf
          have g1 : ¬ (x < 1 ∨ 2305843009213693952 < x) := by intro g; rw [if_pos g] at hf; exact absurd hf (by decide)
          exact ⟨g1, by intro g; rw [if_neg g1, if_pos g] at hf; exact absurd hf (by decide)⟩
        rw [if_neg hxx.1, if_neg hxx.2] at hck
        have a2 : IntKind.i64.wrap (ac + x) = ac + x := IntWalk.i64_in _ (by omega)
        obtain ⟨L, hL⟩ : ∃ L, l.take i ++ (s.take j).map (fun x => (x, b)) = L := ⟨_, rfl⟩
        have hown := HI.out.own
        rw [hL] at hown
        have hLn : l.take i ++ (s.take (j + 1)).map (fun x => (x, b)) = L ++ [(x, b)] := by rw [hst, List.map_append, ← List.append_assoc, hL]; rfl
        have hLl : L.length ≤ 1024 := by rw [← hL, List.length_append, List.length_map, List.length_take, List.length_take]; omega
        have HLN := Lib.hid hLn
        have HCK := Lib.hid hck
        have HSM := Lib.hid hsm2
        have HOW := Lib.hid (show OwnR (wr.alloc (.cells #[.int .i64 x, .bool b] 42)) w.heap.size _ L from World.ownsRow.alloc hown _)
        have HSL := Lib.hid (slr_one wr x b)
        have HU := Lib.hid (HI.out.u.trans ((below_new wr (.cells #[.int .i64 x, .bool b] 42)).mono HI.out.u.size))
        have HX := Lib.hid hxx
        clear hown hL hLn hst hsd hx hsm hsm2 hck hf hxx HI
        go_wp2_with fail
        refine HF.out.mono ?_
        rintro e w' ⟨rfl, rfl⟩
        clear HF
        go_wp2_with (
          at_builtin
          refine wp_appR rfl (.tmp 54) (.tmp 61) rfl w.heap.size _ L rfl (some ⟨wr.heap.size, 0, none⟩) 1 [(x, b)] _ rfl rfl HOW.out HSL.out (by simp; omega) HU.out.size ?_
          intro v1 w1 H1 B1)
        have HN := Lib.hid (show InI w w1 w.heap.size A (some ⟨bb, o, none⟩) c d l s i (j + 1) b v1 (ac + x) from ⟨by rw [HLN.out]; exact H1.out, HU.out.trans B1.out, (HU.out.trans B1.out).size, HSM.out, by have := HX.out; omega, by have := HX.out; omega, HCK.out⟩)
        clear H1 B1 HOW HSL HU HLN HCK HSM HX
        go_wp2_with fail
        go_roundw
        case rel => exact ⟨j + 1, ac + x, by omega, by go_num, rfl, HN⟩
        case measure => simp [intOf]; omega
      · have hcf : chk1 s = flt x ac := by
          rw [hck]
          unfold flt at hf ⊢
          split
          · rfl
          · rename_i g
            rw [if_neg g] at hf
            split
            · rfl
            · rename_i g2
              rw [if_neg g2] at hf
              exact absurd rfl hf
        have HCF := Lib.hid (And.intro hcf hf)
        have HU := Lib.hid HI.out.u
        obtain ⟨f, hff⟩ : ∃ f, flt x ac = f := ⟨_, rfl⟩
        rw [hff] at HF HCF hf
        have b2 : (f != 0) = true := by simpa using hf
        clear hf hff hcf hck hst hsd hx hsm hsm2 HI h0 h1
        go_wp2_with fail
        refine HF.out.mono ?_
        rintro e w' ⟨rfl, rfl⟩
        clear HF
        go_wp2_with fail
        go_ret2
        rw [HRR.out, if_neg (by rw [HCF.out.1]; exact HCF.out.2), HCF.out.1]
        exact ⟨none, 0, rfl, ⟨RdR.nil, Nat.le_refl _, by omega, fun _ => rfl⟩, HU.out, fun _ h => by cases h⟩
    · obtain rfl : j = s.length := by omega
      have hck := HI.out.chk
      have hsm := HI.out.sum
      have hown := HI.out.own
      rw [List.drop_length] at hck
      rw [List.take_length] at hsm hown
      have hck0 : chk1 s = 0 := hck
      obtain ⟨T, hT⟩ : ∃ T, (sz l).sum = T := ⟨_, rfl⟩
      have HTP := Lib.hid (rtop_any A c l wr ((HA.out.below HI.out.u).rd) HV.out.vd l.length (Nat.le_refl _))
      rw [pre_full, hT] at HTP
      have t1 := HV.out.vd.lo l.length
      have t2 := HV.out.vd.hi l.length
      rw [pre_full, hT] at t1 t2
      have a2 : IntKind.i64.wrap (4611686018427387904 - ac) = 4611686018427387904 - ac := IntWalk.i64_in _ (by omega)
      have HU := Lib.hid HI.out.u
      have hj1 : joinE (sz l) s = if 4611686018427387904 - T < ac then 13 else 0 := by
        unfold joinE
        rw [if_neg (by rw [sz_len]; omega), hT, hsm]
      have HJ1 := Lib.hid hj1
      have HCK := Lib.hid hck0
      by_cases hov : 4611686018427387904 - ac < T
      · have HOV := Lib.hid (show 4611686018427387904 - T < ac by omega)
        clear hck hsm hown hck0 hT hj1 HI h0 h1 t1 t2 hj hlt
        go_wp2_with fail
        refine HTP.out.mono ?_
        rintro e w' ⟨rfl, rfl⟩
        clear HTP
        go_wp2_with fail
        go_ret2
        rw [HRR.out, if_pos HCK.out, if_neg (by rw [HJ1.out, if_pos HOV.out]; decide)]
        exact ⟨none, 0, rfl, ⟨RdR.nil, Nat.le_refl _, by omega, fun _ => rfl⟩, HU.out, fun _ h => by cases h⟩
      · have HOV := Lib.hid (show ¬ 4611686018427387904 - T < ac by omega)
        obtain ⟨L, hL⟩ : ∃ L, l.take i ++ s.map (fun x => (x, b)) = L := ⟨_, rfl⟩
        rw [hL] at hown
        have HOW := Lib.hid hown
        have HLL := Lib.hid hL
        have hLl : L.length ≤ 1024 := by rw [← hL, List.length_append, List.length_map, List.length_take]; omega
        obtain ⟨A2, hA2⟩ : ∃ A2, (if c = i then A else A.map fun x => x.add (i * 2)) = A2 := ⟨_, rfl⟩
        have HP := Lib.hid ((HA.out.below HI.out.u).rest i hi)
        rw [hA2] at HP
        have hdl : (l.drop i).length = l.length - i := List.length_drop
        have z5 : (i : Int) ≤ (l.length : Int) := by omega
        clear hck hsm hown hck0 hT hj1 HI h0 h1 t1 t2 hL hj hlt
        go_wp2_with fail
        refine HTP.out.mono ?_
        rintro e w' ⟨rfl, rfl⟩
        clear HTP
        go_wp2_with (
          at_builtin
          refine wp_appR rfl (.tmp 70) (.tmp 73) rfl w.heap.size _ L rfl A2 (c - i) (l.drop i) _ rfl hdl.symm HOW.out HP.out (by rw [hdl]; omega) HU.out.size ?_
          intro v3 w4 H3 B3)
        go_ret2
        rw [HRR.out, if_pos HCK.out, if_pos (by rw [HJ1.out, if_neg (Int.not_lt.2 HOV.out)]), HLL.out]
        exact rowN_own H3.out (HU.out.trans B3.out)
theorem refIns_any {w : World} {A S : Option Addr} {c d : Nat} {l : List (Int × Bool)} {s : List Int} (h : SlR w A c l) (hs : RdI w w.heap.size S s) (hv : Vr l) (i : Int) (b : Bool) (hi2 : i ≤ 9223372036854775807) (hsl : s.length ≤ 1000) :
    Calls Try.prog 19 #[.slice A l.length c, .int .i64 i, .slice S s.length d, .bool b] w (RowN (insI l i s b) w) := by
  unfold insI
  by_cases hp : partE l.length i 0 = 0
  · rw [if_pos hp]
    obtain ⟨a, z, rfl, hz, hab⟩ := partE_cases hp
    by_cases h0 : 1024 < l.length + s.length
    · rw [if_pos h0]
      exact refIns_lim a b (by omega) hv.len hsl h0
    · rw [if_neg h0]
      exact refIns_in (d := d) h hs hv a b (by omega) (by omega) _ (by rw [Int.toNat_natCast])
  · rw [if_neg hp]
    refine refIns_bad i b hi2 hv.len ?_
    unfold partE at hp
    split at hp
    · omega
    · exact absurd rfl hp
end Go.Proofs.Ytdejdnkkbpmmlaa

namespace Go.Proofs.Ytdejdnkkbpmmlaa
open Go.RowKit

set_option maxRecDepth 100000 in
set_option maxHeartbeats 2000000 in
theorem refSet_bad {w : World} {A : Option Addr} {c : Nat} {l : List (Int × Bool)} (i x : Int) (b : Bool) (hi2 : i ≤ 9223372036854775807) (_hl : l.length ≤ 1024) (h : i < 0 ∨ (l.length : Int) ≤ i) :
    Calls Try.prog 25 #[.slice A l.length c, .int .i64 i, .int .i64 x, .bool b] w (RowN ([], 4) w) := by
  rcases (show i < 0 ∨ (¬ (i < 0) ∧ (l.length : Int) ≤ i) by omega) with h | ⟨h, h2⟩
  all_goals
    go_enter Try.func25, Try.ntmps25
    go_wp2_with fail
    go_ret2
    exact rowN_err
theorem ownR_open {W : World} {base : Nat} {v : Value} {l : List (Int × Bool)} (h : OwnR W base v l) (hl : 0 < l.length) : ∃ g c, v = .slice (some ⟨g, 0, none⟩) l.length c ∧ base ≤ g ∧ (∀ k, W.frozen? ⟨g, k, none⟩ = false) ∧ SlR W (some ⟨g, 0, none⟩) c l := by
  obtain ⟨A, c, hv, hs, hf⟩ := h.sl
  rcases h.2 with ⟨_, hn⟩ | ⟨g, cap, cur, hv2, hb, hg, _⟩
  · omega
  · rw [hv] at hv2
    injection hv2 with e1 _ e3
    subst e1; subst e3
    exact ⟨g, c, hv, hb, fun k => by simp [World.frozen?, hg], hs⟩
theorem ownR_set {W : World} {g c : Nat} {l : List (Int × Bool)} (h : SlR W (some ⟨g, 0, none⟩) c l) (i : Nat) (_hi : i < l.length) (x : Int) (b : Bool) :
    SlR ((W.setCell ⟨g, i * 2, none⟩ (.int .i64 x)).setCell ⟨g, i * 2 + 1, none⟩ (.bool b)) (some ⟨g, 0, none⟩) c (l.set i (x, b)) :=
  ⟨fun k hk => by
    have hk' : k < l.length := by simpa using hk
    obtain ⟨g', o', e', h1, h2, h3⟩ := h.rd k hk'
    injection e' with e'
    injection e' with e1 e2
    subst e1; subst e2
    refine ⟨g, 0, rfl, by simpa [World.setCell] using h1, ?_, ?_⟩
    · rw [List.getElem_set]
      by_cases hik : i = k
      · subst hik
        rw [if_pos rfl, World.cell?_setCell_other _ _ _ _ (fun e => by injection e with _ e; omega)]
        rw [Nat.zero_add] at h2 ⊢
        exact World.cell?_setCell_same W ⟨g, i * 2, none⟩ (.int .i64 x) h2
      · rw [if_neg hik, World.cell?_setCell_other _ _ _ _ (fun e => by injection e with _ e; omega), World.cell?_setCell_other _ _ _ _ (fun e => by injection e with _ e; omega)]
        exact h2
    · rw [List.getElem_set]
      by_cases hik : i = k
      · subst hik
        rw [if_pos rfl]
        rw [Nat.zero_add] at h3 ⊢
        exact World.cell?_setCell_same (W.setCell ⟨g, i * 2, none⟩ (.int .i64 x)) ⟨g, i * 2 + 1, none⟩ (.bool b) (u := .bool l[i].2) (by rw [World.cell?_setCell_other _ _ _ _ (fun e => by injection e with _ e; omega)]; exact h3)
      · rw [if_neg hik, World.cell?_setCell_other _ _ _ _ (fun e => by injection e with _ e; omega), World.cell?_setCell_other _ _ _ _ (fun e => by injection e with _ e; omega)]
        exact h3, by rw [List.length_set]; exact h.le, h.max, fun h => by cases h⟩
set_option maxRecDepth 100000 in
set_option maxHeartbeats 8000000 in
theorem refSet_in {w : World} {A : Option Addr} {c : Nat} {l : List (Int × Bool)} (h : SlR w A c l) (hv : Vr l) (i : Nat) (x : Int) (b : Bool) (hi : i < l.length) (R : List (Int × Bool) × Int)
    (hR : R = if flt x ((sz l).sum - l[i].1) = 0 then (l.set i (x, b), 0) else ([], flt x ((sz l).sum - l[i].1))) :
    Calls Try.prog 25 #[.slice A l.length c, .int .i64 i, .int .i64 x, .bool b] w (RowN R w) := by
  have HRR := Lib.hid hR
  clear hR
  have hle := h.le
  have hmx := h.max
  have hln := hv.len
  have HA := Lib.hid h
  have his : i < (sz l).length := by rw [sz_len]; exact hi
  have t1 := hv.vd.lo i
  have t2 := hv.vd.hi l.length
  have t3 := pre_mono (vd_nn hv) (show i + 1 ≤ l.length from hi)
  rw [pre_succ his, sz_get hi] at t3
  have t4 := hv.pos _ (List.getElem_mem his)
  rw [sz_get hi] at t4
  rw [pre_full] at t2 t3
  obtain ⟨bb, o, rfl, hb, hc0, _⟩ := h.rd i hi
  have hT := rtop_any (some ⟨bb, o, none⟩) c l w.drew (h.rd.below (drew_below w)) hv.vd l.length (Nat.le_refl _)
  rw [pre_full] at hT
  obtain ⟨v, hvv⟩ : ∃ v, l[i].1 = v := ⟨_, rfl⟩
  obtain ⟨T, hTT⟩ : ∃ T, (sz l).sum = T := ⟨_, rfl⟩
  rw [hvv, hTT] at HRR t3
  rw [hvv] at hc0 t4
  rw [hTT] at t2 hT
  have a1 : IntKind.i64.wrap (T - v) = T - v := IntWalk.i64_in _ (by omega)
  have HT := Lib.hid hT
  have HFL := Lib.hid (fault_any x (T - v) w.drew (by omega) (by omega))
  have z0 : ¬ ((i : Int) < 0) := by omega
  have z1 : ¬ ((l.length : Int) ≤ (i : Int)) := by omega
  have HC0 : Hid (w.drew.cell? ⟨bb, o + i * 2, none⟩ = some (.int .i64 v)) := Lib.hid hc0
  clear t1 t2 t3 t4 hvv hTT hT his h hv
  obtain ⟨f, hf⟩ : ∃ f, flt x (T - v) = f := ⟨_, rfl⟩
  rw [hf] at HFL HRR
  clear hf
  go_enter Try.func25, Try.ntmps25
  go_upto_region 3 with fail
  go_cut [10] (fun s wx => s = .int .i64 f ∧ wx = w.drew)
  case first =>
    go_region_held3 (fun U => U.cell? ⟨bb, o + i * 2, none⟩ = some (.int .i64 v))
      (with_reducible exact HC0.out)
      (first
        | (go_at_call 12; (with_reducible refine HT.out.mono ?_); rintro e w' ⟨rfl, rfl⟩)
        | (go_at_call 34; (with_reducible refine HFL.out.mono ?_); rintro e w' ⟨rfl, rfl⟩))
    all_goals (
      go_wp2_with fail
      go_meet
      exact ⟨rfl, rfl⟩)
  case rest =>
    obtain ⟨rfl, hw⟩ := hcut
    subst hw
    clear HT HFL HC0 hc0
    by_cases hf : f = 0
    · subst hf
      rw [if_pos rfl] at HRR
      have HO : Hid (OwnR ((w.alloc (.cells #[] 42)).drew) w.heap.size (.slice (some ⟨w.heap.size, 0, none⟩) 0 0) []) := Lib.hid (madeR0 w)
      have HB : Hid (Below w.heap.size w ((w.alloc (.cells #[] 42)).drew)) := Lib.hid (below_new w _).drew
      have HS0 := Lib.hid (HA.out.below HB.out)
      go_wp2_with (
        at_builtin
        refine wp_appR rfl (.tmp 35) (.tmp 36) rfl w.heap.size _ [] rfl (some ⟨bb, o, none⟩) c l _ rfl rfl HO.out HS0.out (by simp; omega) HB.out.size ?_
        intro v1 w1 H1 B1
        obtain ⟨g, c1, hv1, hg, hfz, hs1⟩ := ownR_open (l := l) (by have := H1.out; rwa [List.nil_append] at this) (by omega)
        subst hv1
        obtain ⟨g', o', e', _, k0, k1⟩ := hs1.rd i hi
        have k0' : w1.cell? ⟨g, i * 2, none⟩ = some (.int .i64 l[i].1) := by
          injection e' with e'
          injection e' with e1 e2
          subst e1; subst e2
          simpa using k0
        have k1' : w1.cell? ⟨g, i * 2 + 1, none⟩ = some (.bool l[i].2) := by
          injection e' with e'
          injection e' with e1 e2
          subst e1; subst e2
          simpa using k1
        have fz0 := hfz (i * 2)
        have fz1 := hfz (i * 2 + 1)
        have HS1 := Lib.hid (ownR_set hs1 i hi x b)
        have HB2 := Lib.hid (((HB.out.trans B1.out).setCell (p := ⟨g, i * 2, none⟩) hg (.int .i64 x)).setCell (p := ⟨g, i * 2 + 1, none⟩) hg (.bool b))
        have HG := Lib.hid hg
        clear hs1 hfz H1 B1 e' k0 k1 hg)
      go_ret2
      rw [HRR.out]
      exact ⟨some ⟨g, 0, none⟩, c1, by rw [List.length_set]; rfl, HS1.out, HB2.out, fun a ha => by cases ha; exact HG.out⟩
    · have HF := Lib.hid hf
      have b2 : (f != 0) = true := by simpa using hf
      clear hf
      go_wp2_with fail
      go_ret2
      rw [HRR.out, if_neg HF.out]
      exact ⟨none, 0, rfl, ⟨RdR.nil, Nat.le_refl _, by omega, fun _ => rfl⟩, drew_below w, fun _ h => by cases h⟩
theorem refSet_any {w : World} {A : Option Addr} {c : Nat} {l : List (Int × Bool)} (h : SlR w A c l) (hv : Vr l) (i x : Int) (b : Bool) (hi2 : i ≤ 9223372036854775807) :
    Calls Try.prog 25 #[.slice A l.length c, .int .i64 i, .int .i64 x, .bool b] w (RowN (setI l i x b) w) := by
  unfold setI
  by_cases hp : partE l.length i 1 = 0
  · rw [if_pos hp]
    obtain ⟨a, z, rfl, hz, hab⟩ := partE_cases hp
    have ha : a < l.length := by omega
    have hg : (sz l).getD (a : Int).toNat 0 = l[a].1 := by
      have hk : a < (sz l).length := by rw [sz_len]; exact ha
      rw [Int.toNat_natCast, List.getD, List.getElem?_eq_getElem hk, Option.getD_some, sz_get ha]
    refine refSet_in h hv a x b ha _ ?_
    rw [hg, Int.toNat_natCast]
    unfold flt
    by_cases g1 : x < 1 ∨ 2305843009213693952 < x
    · rw [if_pos g1, if_pos g1, if_neg (by decide)]
    · rw [if_neg g1, if_neg g1]
      by_cases g2 : 4611686018427387904 < (sz l).sum - l[a].1 + x
      · rw [if_pos g2, if_pos g2, if_neg (by decide)]
      · rw [if_neg g2, if_neg g2, if_pos rfl]
  · rw [if_neg hp]
    refine refSet_bad i x b hi2 hv.len ?_
    unfold partE at hp
    split at hp
    · omega
    · exact absurd rfl hp
end Go.Proofs.Ytdejdnkkbpmmlaa
