/- The walk of M's Of. -/
import Derived.Test.YtakgnpmfnechhaaAftW
import Derived.Test.YtakgnpmfnechhaaMapW
import Derived.Deep.CutRange
namespace Go.Proofs.Ytakgnpmfnechhaa
open Go.RowKit

/-- a row in a variable of another kind's neighbourhood -/
theorem sl_set2k {W : World} {g : Nat} {u v : Value} {A : Option Addr} {c : Nat} {l : List Int} (h : SlI W A c l) (hk : Kd W A) (hr : Room W g) : SlI ((W.setCell ⟨g, 0, none⟩ u).setCell ⟨g, 1, none⟩ v) A c l := by
  refine ⟨fun k hk2 => ?_, h.le, h.max, h.nil⟩
  obtain ⟨b, o, e, hb, hc⟩ := h.rd k hk2
  obtain ⟨cs, fz, h3⟩ := hk _ e
  obtain ⟨x, y, h24⟩ := hr
  have hne : b ≠ g := by
    rintro rfl
    rw [h24] at h3
    injection h3 with h3
    injection h3 with _ ht
    exact absurd ht (by decide)
  refine ⟨b, o, e, by simpa using hb, ?_⟩
  rw [World.cell?_setCell_other _ _ _ _ (fun e => hne (congrArg Addr.block e).symm), World.cell?_setCell_other _ _ _ _ (fun e => hne (congrArg Addr.block e).symm)]
  exact hc
/-- the reference's rows, with their lengths as numbers -/
def RowN (n : Nat) (l : List Int) (w : World) (e : Ending) (w' : World) : Prop := ∃ A c, e = .returned (.slice A n c) ∧ SlI w' A c l ∧ Kd w' A ∧ Below w.heap.size w w'
theorem rowN_of {n : Nat} {l : List Int} (hn : l.length = n) {w : World} {e : Ending} {w' : World} (h : RowK l w e w') : RowN n l w e w' := by
  subst hn
  exact h
theorem refSame_n (n : Nat) (hn : n ≤ 4096) (w : World) : Calls Try.prog 25 #[.int .i64 n] w (RowN n (idL n) w) := (refSame_any n hn w).mono fun _ _ h => rowN_of (idL_len n) h
theorem after_n {w : World} {A B : Option Addr} {c d n m : Nat} {ss : List St} {l : List Int} (N : Nat) (hs : RdQ w w.heap.size A ss) (hc : ss.length ≤ c) (hcm : c ≤ 9223372036854775807) (h : SlI w B d l) (hk : Kd w B) (hl : l.length = n) (hn : n ≤ 4000) (hm : (aft l ss).length = m) :
    Calls Try.prog 31 #[.agg #[.int .u8 N, .slice A ss.length c], .slice B n d] w (RowN m (aft l ss) w) := by
  subst hl
  exact (after_any N hs hc hcm h hk hn).mono fun _ _ h => rowN_of hm h
/-- a map is handed back, with room -/
def MapG (o : Int) (n : Nat) (l : List Int) (w : World) (e : Ending) (w' : World) : Prop := ∃ A c, e = .returned (.agg #[.int .i64 o, .slice A n c]) ∧ SlI w' A c l ∧ Kd w' A ∧ Below w.heap.size w w'
theorem kd_set2 {W : World} {g : Nat} {u v : Value} {A : Option Addr} (hk : Kd W A) (hr : Room W g) : Kd ((W.setCell ⟨g, 0, none⟩ u).setCell ⟨g, 1, none⟩ v) A := fun p e => by
  obtain ⟨cs, fz, h3⟩ := hk p e
  obtain ⟨x, y, h24⟩ := hr
  have hne : p.block ≠ g := fun e2 => by
    rw [e2, h24] at h3
    injection h3 with h3
    injection h3 with _ ht
    exact absurd ht (by decide)
  exact ⟨cs, fz, (Below.heap_setCell _ _ _ _ hne).trans ((Below.heap_setCell _ _ _ _ hne).trans h3)⟩
theorem box_of {w : World} (N : Nat) (A : Value) (u v : Value) : ((w.alloc (.cells #[.int .u8 N, A] 54)).alloc (.cells #[u, v] 24)).heap[w.heap.size]? = some (.cells #[.int .u8 N, A] 54 (0, 0)) ∧ Room ((w.alloc (.cells #[.int .u8 N, A] 54)).alloc (.cells #[u, v] 24)) (w.heap.size + 1) ∧ Below w.heap.size w ((w.alloc (.cells #[.int .u8 N, A] 54)).alloc (.cells #[u, v] 24)) := by
  refine ⟨(Below.heap_alloc _ _ _ (by simp)).trans (heap_alloc_new w _), ⟨_, _, new_at _ (by simp)⟩, ((Below.refl _ _).alloc (Nat.le_refl _) _).alloc (by simp) _⟩
set_option maxRecDepth 100000 in
set_option maxHeartbeats 8000000 in
theorem of_M {w : World} {A : Option Addr} {c n m : Nat} {ss : List St} (N : Nat) (hN : N ≤ 255) (hs : RdQ w w.heap.size A ss) (hc : ss.length ≤ c) (hcm : c ≤ 9223372036854775807) (hn : N % 31 = n) (hm : (aft (idL n) ss).length = m) :
    Calls Try.prog 30 #[.agg #[.int .u8 N, .slice A ss.length c]] w (MapG n m (aft (idL n) ss) w) := by
  have hn2 : (N : Int) % 31 = (n : Int) := by omega
  have hn3 : n ≤ 30 := by omega
  obtain ⟨hb, hr, hu⟩ := box_of (w := w) N (.slice A ss.length c) (.int .i64 0) (.slice none 0 0)
  obtain ⟨V, hV⟩ : ∃ V : World, (w.alloc (.cells #[.int .u8 N, .slice A ss.length c] 54)).alloc (.cells #[.int .i64 0, .slice none 0 0] 24) = V := ⟨_, rfl⟩
  rw [hV] at hb hr hu
  have v0 : V.cell? ⟨w.heap.size, 0, none⟩ = some (.int .u8 N) := cell_of_row _ _ 0 _ 54 (0, 0) hb
  have v1 : V.cell? ⟨w.heap.size, 1, none⟩ = some (.slice A ss.length c) := cell_of_row _ _ 1 _ 54 (0, 0) hb
  obtain ⟨g, hg⟩ : ∃ g : Nat, w.heap.size = g := ⟨_, rfl⟩
  obtain ⟨P, hP⟩ : ∃ P : World → Prop, (fun U => Below w.heap.size w U ∧ U.heap[g]? = some (.cells #[.int .u8 N, .slice A ss.length c] 54 (0, 0)) ∧ Room U (g + 1)) = P := ⟨_, rfl⟩
  have PV := Lib.hid (show ∀ U, P U → Below w.heap.size w U ∧ U.heap[g]? = some (.cells #[.int .u8 N, .slice A ss.length c] 54 (0, 0)) ∧ Room U (g + 1) from fun U h => by rw [← hP] at h; exact h)
  have PN := Lib.hid (show ∀ U U', Hid (P U) → Below U.heap.size U U' → P U' from fun U U' h kk => by
    have h := h.out
    rw [← hP] at h ⊢
    exact ⟨h.1.trans (kk.mono h.1.size), keep_heap kk h.2.1, h.2.2.keep kk⟩)
  have HP0 : Hid (P V.drew) := Lib.hid (by rw [← hP, ← hg]; exact ⟨hu.drew, hb, hr⟩)
  have PC := Lib.hid (show ∀ U, Hid (P U) → (U.cell? ⟨g, 0, none⟩ = some (.int .u8 N) ∧ U.cell? ⟨g, 1, none⟩ = some (.slice A ss.length c)) from fun U h => ⟨cell_of_row _ _ 0 _ 54 (0, 0) (PV.out U h.out).2.1, cell_of_row _ _ 1 _ 54 (0, 0) (PV.out U h.out).2.1⟩)
  have PC2 := Lib.hid (show ∀ U x y, Hid (P U) → (((U.setCell ⟨g + 1, 0, none⟩ x).setCell ⟨g + 1, 1, none⟩ y).cell? ⟨g, 0, none⟩ = some (.int .u8 N) ∧ ((U.setCell ⟨g + 1, 0, none⟩ x).setCell ⟨g + 1, 1, none⟩ y).cell? ⟨g, 1, none⟩ = some (.slice A ss.length c)) from fun U x y h => by
    obtain ⟨h0, h1⟩ := PC.out U h
    have hne : ∀ i j, (⟨g, i, none⟩ : Addr) ≠ ⟨g + 1, j, none⟩ := fun i j e => by
      have := congrArg Addr.block e
      simp at this
    rw [World.cell?_setCell_other _ _ _ _ (hne _ _).symm, World.cell?_setCell_other _ _ _ _ (hne _ _).symm, World.cell?_setCell_other _ _ _ _ (hne _ _).symm, World.cell?_setCell_other _ _ _ _ (hne _ _).symm]
    exact ⟨h0, h1⟩)
  have CS := Lib.hid (show ∀ U, Hid (P U) → Calls Try.prog 25 #[.int .i64 n] U (RowN n (idL n) U) from fun U _ => refSame_n n (by omega) U)
  have CA := Lib.hid (show ∀ U B d, Hid (P U) → SlI U B d (idL n) → Kd U B → Calls Try.prog 31 #[.agg #[.int .u8 N, .slice A ss.length c], .slice B n d] U (RowN m (aft (idL n) ss) U) from fun U B d h h1 h2 =>
    after_n N ((hs.below (PV.out U h.out).1).more (PV.out U h.out).1.size) hc hcm h1 h2 (idL_len n) (by omega) hm)
  rw [hg] at v0 v1
  clear hP hb hr hu hs hn hm
  go_enter Try.func30, Try.ntmps30
  go_upto_region 2 with fail
  clear hV v0 v1 hn2
  go_region_held3 (fun U => U.cell? ⟨g, 0, none⟩ = some (.int .u8 N) ∧ U.cell? ⟨g, 1, none⟩ = some (.slice A ss.length c))
    (first
      | with_reducible exact PC.out _ (by assumption)
      | with_reducible exact PC2.out _ _ _ (by assumption))
    (first
      | (go_at_call 25; (with_reducible refine (CS.out _ (by assumption)).mono ?_); rintro e w1 ⟨A1, c1, rfl, hs1, hk1, kk⟩; have HQ := Lib.hid (PN.out _ _ (by assumption) kk); have HR := Lib.hid (show _ ∧ _ from ⟨hs1, hk1⟩); clear kk hs1 hk1)
      | (go_at_call 31; (with_reducible refine (CA.out _ _ _ (by assumption) HR.out.1 HR.out.2).mono ?_); rintro e w2 ⟨A2, c2, rfl, hs2, hk2, kk⟩; have HQ2 := Lib.hid (PN.out _ _ (by assumption) kk); have HR2 := Lib.hid (show _ ∧ _ from ⟨hs2, hk2⟩); obtain ⟨u, v, r0, r1, f0, f1⟩ := (PV.out _ HQ2.out).2.2.open_; clear kk hs2 hk2))
  go_wp2_with fail
  exact bodyPost_ret (res_map rfl (g := g + 1) rfl (heap_set2 (PV.out _ HQ2.out).2.2)) rfl ⟨A2, c2, rfl, sl_set2k HR2.out.1 HR2.out.2 (PV.out _ HQ2.out).2.2, kd_set2 HR2.out.2 (PV.out _ HQ2.out).2.2, below_set2 (PV.out _ HQ2.out).1 (by omega)⟩
end Go.Proofs.Ytakgnpmfnechhaa
