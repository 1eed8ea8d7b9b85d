/- The walk of halved. -/
import Derived.Test.YtdejdnkkbpmmlaaMWithW
import Derived.Test.YtdejdnkkbpmmlaaMFRefW
namespace Go.Proofs.Ytdejdnkkbpmmlaa
open Go.RowKit

/-- what halved makes -/
structure Hv (l : List Int) (t : T) : Prop where
  list : t.list = l
  bal : t.Bal
  dep : t.depth = halfD l.length
def HalfAt (n : Nat) : Prop := ∀ {A : Option Addr} {c : Nat} {zs : List Int} {w : World}, zs.length ≤ n → RdI w w.heap.size A zs → zs.length ≤ c → c ≤ 9223372036854775807 → Ok zs →
    Calls Try.prog 65 #[.slice A zs.length c] w (Gives (Hv zs) w)
theorem hv_node {zs : List Int} {m : Nat} (hm : m = zs.length / 2) (h : m < zs.length) {l r : T} (hl : Hv (zs.take m) l) (hr : Hv (zs.drop (m + 1)) r) : Hv zs (T.node l zs[m] r) := by
  have h1 := halfD_split (n := zs.length) (by omega)
  have e1 : (zs.take m).length = zs.length / 2 := by rw [List.length_take]; omega
  have e2 : (zs.drop (m + 1)).length = zs.length - zs.length / 2 - 1 := by rw [List.length_drop]; omega
  have d1 := hl.dep
  have d2 := hr.dep
  rw [e1] at d1
  rw [e2] at d2
  refine ⟨?_, ⟨hl.bal, hr.bal, by omega, by omega⟩, ?_⟩
  · rw [T.list, hl.list, hr.list, List.getElem_cons_drop, List.take_append_drop]
  · rw [T.depth, d1, d2, h1.1]

theorem half_zero : HalfAt 0 := by
  intro A c zs w h0 hr hc hm ho
  obtain rfl : zs = [] := List.eq_nil_of_length_eq_zero (by omega)
  have HB : Hid (Hv [] .nil) := Lib.hid ⟨rfl, trivial, halfD_zero.symm⟩
  clear hr ho h0
  change Calls Try.prog 65 #[.slice A 0 c] w _
  go_enter Try.func65, Try.ntmps65
  go_wp2_with fail
  exact bodyPost_ret (res_rope rfl (g := w.heap.size) rfl (heap_alloc_new w _)) rfl ⟨.nil, none, HB.out, rfl, rfl, (Below.refl _ _).alloc (Nat.le_refl _) _⟩

theorem RdI.part {w : World} {B : Nat} {A : Option Addr} {zs : List Int} (h : RdI w B A zs) (m : Nat) : RdI w B A (zs.take m) := fun k hk => by
  have hk' : k < zs.length := by rw [List.length_take] at hk; omega
  obtain ⟨b, o, e, hb, hc⟩ := h k hk'
  exact ⟨b, o, e, hb, by rw [hc, List.getElem_take]⟩
theorem RdI.rest {w : World} {B b o : Nat} {zs : List Int} (h : RdI w B (some ⟨b, o, none⟩) zs) (m : Nat) (A : Option Addr) (hA : m < zs.length → A = some ⟨b, o + m, none⟩) : RdI w B A (zs.drop m) := fun k hk => by
  rw [List.length_drop] at hk
  obtain ⟨b', o', e, hb, hc⟩ := h (m + k) (by omega)
  injection e with e
  injection e with e1 e2
  subst e1; subst e2
  refine ⟨b, o + m, hA (by omega), hb, ?_⟩
  rw [Nat.add_assoc, hc, List.getElem_drop]

set_option maxHeartbeats 2000000 in
theorem half_some {n : Nat} (ih : HalfAt n) {A : Option Addr} {c : Nat} {zs : List Int} {w : World} (h0 : zs.length ≤ n + 1) (hp : 0 < zs.length) (hr : RdI w w.heap.size A zs) (hc : zs.length ≤ c) (hm : c ≤ 9223372036854775807) (ho : Ok zs) :
    Calls Try.prog 65 #[.slice A zs.length c] w (Gives (Hv zs) w) := by
  obtain ⟨m, hmq⟩ : ∃ m, m = zs.length / 2 := ⟨_, rfl⟩
  have hml : m < zs.length := by omega
  have hnn := ho.len
  obtain ⟨b, o, rfl, hb, hcell⟩ := hr m hml
  have HV : Hid (∀ l r, Hv (zs.take m) l → Hv (zs.drop (m + 1)) r → Hv zs (T.node l zs[m] r)) := Lib.hid (fun l r hl hr => hv_node hmq hml hl hr)
  have HO : Hid (∀ t, Hv zs t → Ok t.list) := Lib.hid (fun t ht => by rw [ht.list]; exact ho)
  have hB0 := (Below.refl w.heap.size w).alloc (Nat.le_refl _) (.cells #[.int .i64 0, .int .i64 0, .int .i64 0, .pointer none] 29)
  have hR0 : Room (w.alloc (.cells #[.int .i64 0, .int .i64 0, .int .i64 0, .pointer none] 29)) w.heap.size := ⟨_, _, _, _, heap_alloc_new w _⟩
  have e1 : (zs.take m).length = m := by rw [List.length_take]; omega
  have e2 : (zs.drop (m + 1)).length = zs.length - (m + 1) := by rw [List.length_drop]
  have H1 : Hid (∀ W, Below w.heap.size w W → Calls Try.prog 65 #[.slice (some ⟨b, o, none⟩) m c] W (Gives (Hv (zs.take m)) W)) := Lib.hid (fun W hW => by
    have := ih (c := c) (zs := zs.take m) (by omega) (((hr.below hW).more hW.size).part m) (by omega) hm (ho.sub (List.take_sublist _ _))
    rwa [e1] at this)
  have H2 : Hid (∀ W A2, Below w.heap.size w W → (m + 1 < zs.length → A2 = some ⟨b, o + (m + 1), none⟩) → Calls Try.prog 65 #[.slice A2 (zs.length - (m + 1)) (c - (m + 1))] W (Gives (Hv (zs.drop (m + 1))) W)) := Lib.hid (fun W A2 hW hA2 => by
    have := ih (A := A2) (c := c - (m + 1)) (zs := zs.drop (m + 1)) (by omega) (((hr.below hW).more hW.size).rest (m + 1) A2 hA2) (by omega) (by omega) (ho.sub (List.drop_sublist _ _))
    rwa [e2] at this)
  have c0 := keep_of hB0.drew hcell
  have hq : ((zs.length : Int) / 2) = (m : Int) := by omega
  have hz : ((zs.length : Int) == 0) = false := by rw [beq_eq_false_iff_ne]; omega
  obtain ⟨A2, hA2, hA3⟩ : ∃ A2 : Option Addr, (m + 1 < zs.length → A2 = some ⟨b, o + (m + 1), none⟩) ∧ A2 = (if c = m + 1 then some ⟨b, o, none⟩ else some ⟨b, o + (m + 1), none⟩) := ⟨_, fun h => by rw [if_neg (by omega)], rfl⟩
  have HA2 := Lib.hid hA2
  replace hA3 := hA3.symm
  have s1 : IntKind.i64.wrap ((m : Int) + 1) = (m : Int) + 1 := IntWalk.i64_in _ (by omega)
  have s2 : (0 : Int) ≤ (m : Int) + 1 := by omega
  have s3 : ((m : Int) + 1).toNat = m + 1 := by omega
  have s4 : (m : Int) + 1 ≤ (zs.length : Int) := by omega
  have s5 : (m : Int) ≤ (c : Int) := by omega
  have s6 : (m : Int) < (zs.length : Int) := by omega
  have s7 : (zs.length : Int) ≤ (c : Int) := by omega
  obtain ⟨v, hv⟩ : ∃ v, zs[m] = v := ⟨_, rfl⟩
  have hkb : b < w.heap.size := hb
  clear hr hcell ih hA2 e1 e2 hmq ho h0
  rw [hv] at HV c0
  clear hv
  generalize zs.length = L at *
  go_enter Try.func65, Try.ntmps65
  go_wp2_with fail
  go_region_held3 (fun U => Below w.heap.size w U ∧ Room U (w.heap.size) ∧ U.cell? ⟨b, o + m, none⟩ = some (.int .i64 v))
    (first
      | ((with_reducible refine ⟨hB0.drew, hR0.drew, ?_⟩) <;> with_reducible assumption)
      | (have hS := ‹Below w.heap.size w _ ∧ Room _ _ ∧ _›; (with_reducible refine ⟨hS.1.trans (kk.mono hS.1.size), hS.2.1.keep kk, ?_⟩) <;> exact keep_of kk (by simp only [hS]))
      | (have hS := ‹Below w.heap.size w _ ∧ Room _ _ ∧ _›; (with_reducible refine ⟨below_set4 (g := w.heap.size) hS.1 ?_, room_same (g := w.heap.size) hS.2.1, ?_⟩) <;> first | omega | exact cell_set4 (by simp <;> omega) (by simp only [hS])))
    (first
      | (go_at_call_of 65 (Value.slice (some ⟨b, o, none⟩) m c); ((with_reducible refine (H1.out _ ?_).mono ?_)); (exact (‹Below w.heap.size w _ ∧ _›).1); rintro e w2 ⟨t1, p1, k1, rfl, n1, kk⟩)
      | (go_at_call 65; ((with_reducible refine (H2.out _ A2 ?_ HA2.out).mono ?_)); (exact (‹Below w.heap.size w _ ∧ _›).1); rintro e w2 ⟨t2, p2, k2, rfl, n2, kk⟩; have n1b := n1.below kk)
      | (go_at_call 71; ((with_reducible refine (build_any n1b n2 ?_).mono ?_)); (exact HO.out _ (HV.out _ _ k1 k2)); rintro e w3 ⟨_, p3, rfl, rfl, n3, kk⟩; have hR3 := (‹Below w.heap.size w _ ∧ Room _ _ ∧ _›).2.1.keep kk; obtain ⟨v0, v1, v2, v3, c0, c1, c2, c3, f0, f1, f2, f3⟩ := hR3.open_))
  go_wp2_with fail
  exact bodyPost_ret (res_rope rfl (g := w.heap.size) rfl (heap_set4 hR3)) rfl (gives_set (HV.out t1 t2 k1 k2) n3 hR3 (‹Below w.heap.size w _ ∧ _›).1)

theorem half_at (n : Nat) : HalfAt n := by
  induction n with
  | zero => exact half_zero
  | succ n ih =>
    intro A c zs w h0 hr hc hm ho
    rcases Nat.eq_zero_or_pos zs.length with h | h
    · exact half_zero (by omega) hr hc hm ho
    · exact half_some ih h0 h hr hc hm ho
end Go.Proofs.Ytdejdnkkbpmmlaa
