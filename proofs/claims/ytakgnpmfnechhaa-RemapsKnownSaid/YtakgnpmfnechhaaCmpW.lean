/- The walk of Compose. -/
import Derived.Test.YtakgnpmfnechhaaMadW
import Derived.Test.YtakgnpmfnechhaaChkW
namespace Go.Proofs.Ytakgnpmfnechhaa
open Go.RowKit

def cmpM (oa : Int) (a : List Int) (ob : Int) (b : List Int) : (Int × List Int) × Int :=
  if chkM oa a ≠ 0 then ((0, []), chkM oa a) else if chkM ob b ≠ 0 then ((0, []), chkM ob b) else if ob ≠ a.length then ((0, []), 16) else ((oa, cmpL a b), 0)
structure CmW (oa : Int) (a : List Int) (ob : Int) (b : List Int) (p q : Int) (R : (Int × List Int) × Int) : Prop where
  e1 : p ≠ 0 → R = ((0, []), p)
  e2 : p = 0 → q ≠ 0 → R = ((0, []), q)
  e3 : p = 0 → q = 0 → ob ≠ a.length → R = ((0, []), 16)
  e4 : p = 0 → q = 0 → ob = a.length → R = ((oa, cmpL a b), 0)
  va : p = 0 → Vm oa a
  vb : q = 0 → Vm ob b
theorem cmp_ways {oa : Int} {a : List Int} {ob : Int} {b : List Int} {p q : Int} (hp : chkM oa a = p) (hq : chkM ob b = q) : ∃ R, cmpM oa a ob b = R ∧ CmW oa a ob b p q R := by
  refine ⟨_, rfl, fun h => ?_, fun h h2 => ?_, fun h h2 h3 => ?_, fun h h2 h3 => ?_, fun h => chkM_zero.1 (hp.trans h), fun h => chkM_zero.1 (hq.trans h)⟩ <;> unfold cmpM <;> rw [hp]
  · rw [if_pos h]
  · rw [if_neg (by omega), hq, if_pos h2]
  · rw [if_neg (by omega), hq, if_neg (by omega), if_pos h3]
  · rw [if_neg (by omega), hq, if_neg (by omega), if_neg (by omega)]
/-- what Compose has in memory -/
structure CpI (w wr : World) (oa : Int) (A : Option Addr) (c : Nat) (a : List Int) (ob : Int) (B : Option Addr) (d : Nat) (b : List Int) : Prop where
  a : Mv wr w.heap.size oa A c a
  b : Mv wr (w.heap.size + 1) ob B d b
  r : wr.heap[w.heap.size + 1 + 1]? = some (.cells #[.int .i64 0, .slice none 0 0] 24 (0, 0))
  u : Below w.heap.size w wr
theorem CpI.next {w wr w' : World} {oa : Int} {A : Option Addr} {c : Nat} {a : List Int} {ob : Int} {B : Option Addr} {d : Nat} {b : List Int} (h : CpI w wr oa A c a ob B d b) (hb : Below wr.heap.size wr w') : CpI w w' oa A c a ob B d b :=
  ⟨h.a.next hb, h.b.next hb, keep_heap hb h.r, h.u.trans (hb.mono h.u.size)⟩
theorem cpI_start {w : World} {A B : Option Addr} {c d : Nat} {a b : List Int} (oa ob : Int) (ha : SlI w A c a) (hb : SlI w B d b) :
    CpI w (((w.alloc (.cells #[.int .i64 oa, .slice A a.length c] 24)).alloc (.cells #[.int .i64 ob, .slice B b.length d] 24)).alloc (.cells #[.int .i64 0, .slice none 0 0] 24)) oa A c a ob B d b := by
  have h1 := Mv.new (o := oa) ha
  have h2 := Mv.new (o := ob) (hb.next (below_new w (.cells #[.int .i64 oa, .slice A a.length c] 24)))
  rw [show (w.alloc (.cells #[.int .i64 oa, .slice A a.length c] 24)).heap.size = w.heap.size + 1 by simp] at h2
  exact ⟨(h1.next (below_new _ _)).next (below_new _ _), h2.next (below_new _ _), new_at _ (by simp), (((Below.refl _ _).alloc (Nat.le_refl _) _).alloc (by simp) _).alloc (by simp; omega) _⟩
set_option maxRecDepth 100000 in
set_option maxHeartbeats 4000000 in
theorem compose_any {w : World} {A B : Option Addr} {c d : Nat} {a b : List Int} (oa ob : Int) (ha : SlI w A c a) (hb : SlI w B d b) :
    Calls Try.prog 12 #[.agg #[.int .i64 oa, .slice A a.length c], .agg #[.int .i64 ob, .slice B b.length d]] w (MapE (cmpM oa a ob b) w) := by
  have H := Lib.hid (cpI_start oa ob ha hb)
  have hla := ha.len
  have hlb := hb.len
  obtain ⟨p, hp⟩ : ∃ p, chkM oa a = p := ⟨_, rfl⟩
  obtain ⟨q, hq⟩ : ∃ q, chkM ob b = q := ⟨_, rfl⟩
  have K := check_any oa c H.out.a.sl.rd hla
  rw [hp] at K
  obtain ⟨R, hR, hE⟩ := cmp_ways hp hq
  rw [hR]
  have HE := Lib.hid hE
  have K := Lib.hid K
  have HQ := Lib.hid hq
  clear ha hb hp hq hR hE
  obtain ⟨a0, a1⟩ := H.out.a.cells
  go_enter Try.func12, Try.ntmps12
  go_wp2_with fail
  refine K.out.mono ?_
  rintro e w1 ⟨rfl, hb⟩
  replace H := Lib.hid (H.out.next hb)
  clear K hb a0 a1
  by_cases hp0 : p = 0
  · subst hp0
    obtain ⟨b0, b1⟩ := H.out.b.cells
    have K := check_any ob d H.out.b.sl.rd hlb
    rw [HQ.out] at K
    have K := Lib.hid K
    clear HQ
    go_wp2_with fail
    refine K.out.mono ?_
    rintro e w2 ⟨rfl, hb⟩
    replace H := Lib.hid (H.out.next hb)
    clear K hb b0 b1
    by_cases hq0 : q = 0
    · subst hq0
      obtain ⟨a0, a1⟩ := H.out.a.cells
      obtain ⟨b0, b1⟩ := H.out.b.cells
      by_cases ho : ob = a.length
      · subst ho
        have hva := HE.out.va rfl
        have hvb := HE.out.vb rfl
        obtain rfl := HE.out.e4 rfl rfl rfl
        clear HE
        have M := made34 (w := w2) oa b.length (fun i => g a (b.getD i 0)) _ _ hvb.len (fun W hb i hi => clos34 (H.out.b.next hb) (H.out.a.next hb) hvb.rng i hi)
        rw [cmp_made] at M
        have M := Lib.hid M
        clear hva hvb
        go_wp2_with fail
        refine M.out.mono ?_
        clear M
        rintro e w3 ⟨A3, rfl, hs, hf, hb⟩
        have hR3 : Room w3 (w.heap.size + 1 + 1) := ⟨_, _, keep_heap hb H.out.r⟩
        have HF := Lib.hid (mapE_set (o := oa) (w := w) (g := w.heap.size + 1 + 1) (by omega) (heap_lt H.out.r) hs hf (H.out.u.trans (hb.mono H.out.u.size)))
        have HR := Lib.hid hR3
        obtain ⟨u, v, c0, c1, f0, f1⟩ := hR3.open_
        clear hs hf hb hR3 a0 a1 b0 b1 H
        generalize cmpL a b = l at *
        go_wp2_with fail
        exact bodyPost_ret (res_map_err (u := 5) rfl (g := w.heap.size + 1 + 1) rfl (heap_set2 HR.out)) rfl HF.out
      · obtain rfl := HE.out.e3 rfl rfl ho
        clear HE
        have ho2 : (ob == (a.length : Int)) = false := by simpa using ho
        have HH := H
        obtain ⟨v, hv⟩ : ∃ v : Nat, a.length = v := ⟨_, rfl⟩
        have r0 := cell_of_row _ _ 0 _ 24 (0, 0) H.out.r
        have r1 := cell_of_row _ _ 1 _ 24 (0, 0) H.out.r
        have hR3 : Room w2 (w.heap.size + 1 + 1) := ⟨_, _, H.out.r⟩
        obtain ⟨u', v', c0, c1, f0, f1⟩ := hR3.open_
        have HR := Lib.hid hR3
        have HB := Lib.hid (below_set2 (u := .int .i64 0) (v := .slice none 0 0) H.out.u (show w.heap.size ≤ w.heap.size + 1 + 1 by omega))
        clear H HH hv r0 r1 hR3
        go_wp2_with fail
        exact bodyPost_ret (res_map_err (u := 5) rfl (g := w.heap.size + 1 + 1) rfl (heap_set2 HR.out)) rfl (mapE_err HB.out)
    · obtain rfl := HE.out.e2 rfl hq0
      clear HE
      have hq1 : (q == 0) = false := by simpa using hq0
      have hq2 : (q != 0) = true := by simpa using hq0
      have hR3 : Room w2 (w.heap.size + 1 + 1) := ⟨_, _, H.out.r⟩
      obtain ⟨u', v', c0, c1, f0, f1⟩ := hR3.open_
      have HR := Lib.hid hR3
      have HB := Lib.hid (below_set2 (u := .int .i64 0) (v := .slice none 0 0) H.out.u (show w.heap.size ≤ w.heap.size + 1 + 1 by omega))
      clear H hR3 hq0
      go_wp2_with fail
      exact bodyPost_ret (res_map_err (u := 5) rfl (g := w.heap.size + 1 + 1) rfl (heap_set2 HR.out)) rfl (mapE_err HB.out)
  · obtain rfl := HE.out.e1 hp0
    clear HE
    have hq1 : (p == 0) = false := by simpa using hp0
    have hq2 : (p != 0) = true := by simpa using hp0
    have hR3 : Room w1 (w.heap.size + 1 + 1) := ⟨_, _, H.out.r⟩
    obtain ⟨u', v', c0, c1, f0, f1⟩ := hR3.open_
    have HR := Lib.hid hR3
    have HB := Lib.hid (below_set2 (u := .int .i64 0) (v := .slice none 0 0) H.out.u (show w.heap.size ≤ w.heap.size + 1 + 1 by omega))
    clear H hR3 hp0
    go_wp2_with fail
    exact bodyPost_ret (res_map_err (u := 5) rfl (g := w.heap.size + 1 + 1) rfl (heap_set2 HR.out)) rfl (mapE_err HB.out)
end Go.Proofs.Ytakgnpmfnechhaa
