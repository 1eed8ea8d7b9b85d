/- Slices of ints that may be nil, appended to a row of the call's own; the reference's Join. -/
import Derived.Laws.AppendOwnNone
import Derived.Test.YtfkjnepafgehiaaRofN
import Derived.Test.YtfkjnepafgehiaaPubW
namespace Go.Proofs.Ytfkjnepafgehiaa
open Go.RowKit

/-- nil, or a row of the call's own, with the ints l -/
def OwnI (w : World) (base : Nat) (v : Value) (l : List Int) : Prop := w.ownsRow base 2 1 v l.length (iv l)
theorem iv_apps (l m : List Int) : iv (l ++ m) = iv l ++ iv m := by simp [iv]
theorem OwnI.apps {w : World} {base : Nat} {v : Value} {l m : List Int} {n : Nat} (h : w.ownsRow base 2 1 v (l.length + n) (iv l ++ iv m)) (hn : n = m.length) : OwnI w base v (l ++ m) := by
  unfold OwnI; rw [iv_apps, List.length_append, ← hn]; exact h
/-- a slice of ints: the cells, and no room in a nil one -/
structure SlI (w : World) (A : Option Addr) (c : Nat) (l : List Int) : Prop where
  rd : RdI w w.heap.size A l
  le : l.length ≤ c
  max : c ≤ 9223372036854775807
  nil : A = none → c = 0
theorem SlI.below {w w' : World} {A : Option Addr} {c : Nat} {l : List Int} (h : SlI w A c l) (hb : Below w.heap.size w w') : SlI w' A c l := ⟨h.rd.next hb, h.le, h.max, h.nil⟩
theorem OwnI.sl {w : World} {base : Nat} {v : Value} {l : List Int} (h : OwnI w base v l) : ∃ A c, v = .slice A l.length c ∧ SlI w A c l := by
  obtain ⟨A, c, hv, hc, hm, hr⟩ := own_rd h rfl
  refine ⟨A, c, hv, hr, hc, hm, fun hA => ?_⟩
  subst hA
  rcases h.2 with ⟨hv2, _⟩ | ⟨g, cap, cur, hv2, _⟩
  · rw [hv] at hv2
    injection hv2
  · rw [hv] at hv2
    injection hv2 with e
    cases e
theorem SlI.news {w : World} {ad : Addr} {c : Nat} {l : List Int} (h : SlI w (some ad) c l) : ∀ j u, (iv l)[j]? = some u → w.cell? (ad.add j) = some u := by
  intro j u hu
  have hj := (List.getElem?_eq_some_iff.1 hu).1
  rw [iv_len] at hj
  obtain ⟨b, o, e, _, _⟩ := h.rd j hj
  injection e with e
  subst e
  exact h.rd.news j u hu
theorem info2p : ∃ i : TypeInfo, Try.prog.info? 2 = some i ∧ i.zero = some (.int .i64 0) ∧ i.size = 1 ∧ i.bytes = 8 := info_parts Try.info2
theorem run_app {w : World} (ty : TypeId) {base : Nat} {v : Value} {l : List Int} (hown : OwnI w base v l) {A : Option Addr} {c : Nat} {ms : List Int} (hs : SlI w A c ms)
    (hlen : l.length + ms.length ≤ 1000000) (hbase : base ≤ w.heap.size) :
    ∃ v' w', (Builtin.append_ #[22, 22] ty #[v, .slice A ms.length c]).run Try.prog w = .ok v' w' ∧ OwnI w' base v' (l ++ ms) ∧ Below base w w' := by
  obtain ⟨i0, hi0, hz0, hz1, hz2⟩ := info2p
  have hown' : w.ownsRow base 2 1 v l.length (iv l) := hown
  cases hA : A with
  | none =>
    have hc := hs.nil hA
    have hle := hs.le
    obtain rfl : ms = [] := List.eq_nil_of_length_eq_zero (by omega)
    subst hc
    have hrun := run_append_owned_none (P := Try.prog) (w := w) base 22 ty 2 i0 1 Try.underlying22 hi0 v _ _ hown'
    exact ⟨v, w, hrun, by rw [List.append_nil]; exact hown, Below.refl _ _⟩
  | some ad =>
    subst hA
    obtain ⟨v', w', h1, h2, h3, _, _⟩ := run_append_own_at (P := Try.prog) w base 22 ty 2 i0 (.int .i64 0) 1 8 Try.underlying22 hi0 hz0 hz1 hz2 rfl (by omega) v _ _ hown' ad ms.length c (iv ms) (by rw [iv_len]; omega) hs.news (iv_one _)
      (by simp [maxLen]; omega) (by omega) hbase
    exact ⟨v', w', h1, OwnI.apps h2 rfl, (Below.refl _ _).grown h3 hbase (fun j e => (hown'.lt j e).1)⟩
/-- append, for the walk -/
theorem wp_app {w : World} {ops : Array Oper} {rest : List Oper} {o : Oper} {a : Act} {Q : Exit → Act → World → Prop} (hgd : o.guard = none) (s x : Operand) (ho : o.op = .call { callee := .builtin .append, args := #[s, x], argTypes := #[22, 22] })
    (base : Nat) (v : Value) (l : List Int) (hs : a.eval s = v) (A : Option Addr) (c : Nat) (ms : List Int) (n : Nat) (hx : a.eval x = .slice A n c) (hn : n = ms.length) (hown : OwnI w base v l) (hsrc : SlI w A c ms) (hlen : l.length + ms.length ≤ 1000000) (hbase : base ≤ w.heap.size)
    (h : ∀ v' w', Hid (OwnI w' base v' (l ++ ms)) → Hid (Below base w w') → wpList Try.prog ops Q rest (a.put o.dst v') w') : wpList Try.prog ops Q (o :: rest) a w := by
  subst hn
  refine wpList_plain hgd fun K hK => ?_
  obtain ⟨v', w', hr, h2, h3⟩ := run_app o.type hown hsrc hlen hbase
  unfold Oper.wp execOp
  simp only [ho, resolve, invoke, builtin, Sem.run_bind, Sem.run_pure, Result.andThen_ok, List.map_toArray, List.map_cons, List.map_nil, hs, hx, hr]
  exact hK _ _ (h v' w' (Lib.hid h2) (Lib.hid h3))
theorem made0 (w : World) : OwnI (w.alloc (.cells #[] 2)) w.heap.size (.slice (some ⟨w.heap.size, 0, none⟩) 0 0) [] := World.ownsRow_made w #[] 0 (Nat.le_refl _) (by simp [maxLen]) rfl
/-- what a function of the reference hands back: a list and an error -/
def RowE (r : List Int × Int) (w : World) (e : Ending) (w' : World) : Prop := ∃ A c, e = .returned (.tuple #[.slice A r.1.length c, .int .i64 r.2]) ∧ SlI w' A c r.1 ∧ Below w.heap.size w w'
theorem rowE_err {f : Int} {w : World} : RowE ([], f) w (.returned (.tuple #[.slice none 0 0, .int .i64 f])) w := ⟨none, 0, rfl, ⟨RdI.nil, Nat.le_refl _, by omega, fun _ => rfl⟩, Below.refl _ _⟩
theorem rowE_own {l : List Int} {w W : World} {v : Value} (h : OwnI W w.heap.size v l) (hb : Below w.heap.size w W) : RowE (l, 0) w (.returned (.tuple #[v, .int .i64 0])) W := by
  obtain ⟨A, c, rfl, hs⟩ := h.sl
  exact ⟨A, c, rfl, hs, hb⟩

set_option maxRecDepth 100000 in
set_option maxHeartbeats 2000000 in
theorem refJoin_any {w : World} {A B : Option Addr} {c d : Nat} {l m : List Int} (ha : SlI w A c l) (hb : SlI w B d m) (hvl : Vd l) (hvm : Vd m) :
    Calls Try.prog 25 #[.slice A l.length c, .slice B m.length d] w (RowE (joinR l m) w) := by
  have hl := hvl.len
  have hm := hvm.len
  have s1 := hvl.ok.sum
  have s2 := hvm.ok.sum
  have s3 := hvl.ok.nn
  have s4 := hvm.ok.nn
  have HA := Lib.hid ha
  have HB := Lib.hid hb
  have HV1 := Lib.hid hvl
  have HV2 := Lib.hid hvm
  have HS1 := Lib.hid (refSum_any A c l w ha.rd hvl l.length (Nat.le_refl _))
  have HS2 := Lib.hid (refSum_any B d m w hb.rd hvm m.length (Nat.le_refl _))
  rw [show pre l l.length = l.sum by rw [pre, List.take_length]] at HS1
  rw [show pre m m.length = m.sum by rw [pre, List.take_length]] at HS2
  have n1 : 0 ≤ l.sum := by have := pre_nn s3 l.length; rwa [pre, List.take_length] at this
  have n2 : 0 ≤ m.sum := by have := pre_nn s4 m.length; rwa [pre, List.take_length] at this
  clear ha hb hvl hvm s3 s4
  by_cases h0 : 4096 < l.length + m.length
  · have hj : joinR l m = ([], 3) := by unfold joinR joinE; rw [if_pos h0]; simp
    rw [hj]
    go_enter Try.func25, Try.ntmps25
    have e0 : (4096 : Int) < (l.length : Int) + (m.length : Int) := by omega
    go_wp2_with fail
    go_ret2
    exact rowE_err
  · by_cases h1 : 4611686018427387904 - l.sum < m.sum
    · have hj : joinR l m = ([], 13) := by unfold joinR joinE; rw [if_neg h0, if_pos h1]; simp
      rw [hj]
      generalize l.sum = x at *
      generalize m.sum = y at *
      go_enter Try.func25, Try.ntmps25
      have e0 : (l.length : Int) + (m.length : Int) ≤ 4096 := by omega
      have e1 : 4611686018427387904 - y < x := by omega
      go_wp2_with fail
      refine HS1.out.mono ?_
      rintro e w' ⟨rfl, rfl⟩
      go_wp2_with fail
      refine HS2.out.mono ?_
      rintro e w' ⟨rfl, rfl⟩
      go_wp2_with fail
      go_ret2
      exact rowE_err
    · have hj : joinR l m = (l ++ m, 0) := by unfold joinR joinE; rw [if_neg h0, if_neg h1]; simp
      rw [hj]
      generalize l.sum = x at *
      generalize m.sum = y at *
      have e0 : (l.length : Int) + (m.length : Int) ≤ 4096 := by omega
      have e1 : x ≤ 4611686018427387904 - y := by omega
      have HO := Lib.hid (made0 w)
      have HB0 : Hid (Below w.heap.size w (w.alloc (.cells #[] 2))) := Lib.hid ((Below.refl _ _).alloc (Nat.le_refl _) _)
      have HA0 := Lib.hid (HA.out.below HB0.out)
      go_enter Try.func25, Try.ntmps25
      go_wp2_with fail
      refine HS1.out.mono ?_
      rintro e w' ⟨rfl, rfl⟩
      go_wp2_with fail
      refine HS2.out.mono ?_
      rintro e w' ⟨rfl, rfl⟩
      go_wp2_with (
        at_builtin
        first
          | (refine wp_app rfl (.tmp 22) (.tmp 23) rfl w.heap.size _ [] rfl A c l _ rfl rfl HO.out HA0.out (by simp; omega) (by simp) ?_
             intro v1 w1 H1 B1)
          | (refine wp_app rfl (.tmp 24) (.tmp 25) rfl w.heap.size _ ([] ++ l) rfl B d m _ rfl rfl H1.out (HB.out.below (HB0.out.trans B1.out)) (by simp; omega) (HB0.out.trans B1.out).size ?_
             intro v2 w2 H2 B2))
      go_ret2
      exact rowE_own (by have := H2.out; rwa [List.nil_append] at this) ((HB0.out.trans B1.out).trans B2.out)
end Go.Proofs.Ytfkjnepafgehiaa
