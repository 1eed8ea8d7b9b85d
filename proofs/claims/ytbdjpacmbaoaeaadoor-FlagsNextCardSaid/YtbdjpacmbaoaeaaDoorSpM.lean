/- What the law FlagsSpans leans on: insertions and removals of spans and of flags. -/
import Derived.Test.YtbdjpacmbaoaeaaDoorRankL
import Derived.Test.YtbdjpacmbaoaeaaDoorSInsW
import Derived.Test.YtbdjpacmbaoaeaaDoorSRemW
namespace Go.Proofs.YtbdjpacmbaoaeaaDoor
open Go.RowKit S
theorem mkd_neg {ms : List Bool} {i : Int} (h : i < 0) : mkd ms i = false := by unfold mkd; rw [decide_eq_false (by omega)]; rfl
theorem mkd_of (ms : List Bool) (j : Nat) : mkd ms (j : Int) = ms.getD j false := by
  unfold mkd; rw [decide_eq_true (Int.natCast_nonneg j)]; simp
/-- the flags with n false ones put at a -/
abbrev insB (ms : List Bool) (a n : Nat) (v : Bool) : List Bool := ms.take a ++ (List.replicate n v ++ ms.drop a)
abbrev remB (ms : List Bool) (a n : Nat) : List Bool := ms.take a ++ ms.drop (a + n)
theorem insB_mk {ms : List Bool} {a n : Nat} (ha : a ≤ ms.length) (i : Int) : mkd (insB ms a n false) i = if i < a then mkd ms i else if i < a + n then false else mkd ms (i - n) := by
  by_cases hi : i < 0
  · rw [if_pos (by omega), mkd_neg hi, mkd_neg hi]
  · obtain ⟨j, rfl⟩ := Int.eq_ofNat_of_zero_le (by omega : 0 ≤ i)
    have htl : (ms.take a).length = a := by rw [List.length_take]; omega
    rw [mkd_of]
    by_cases h1 : j < a
    · rw [if_pos (by omega), mkd_of, List.getD, List.getD, List.getElem?_append_left (by omega), List.getElem?_take, if_pos h1]
    · rw [if_neg (by omega), List.getD, List.getElem?_append_right (by omega), htl]
      by_cases h2 : j < a + n
      · rw [if_pos (by omega), List.getElem?_append_left (by rw [List.length_replicate]; omega), List.getElem?_replicate, if_pos (by omega)]
        rfl
      · rw [if_neg (by omega), show (j : Int) - n = ((j - n : Nat) : Int) from by omega, mkd_of, List.getD, List.getElem?_append_right (by rw [List.length_replicate]; omega),
          List.length_replicate, List.getElem?_drop, show a + (j - a - n) = j - n from by omega]
theorem remB_mk {ms : List Bool} {a n : Nat} (ha : a ≤ ms.length) (i : Int) : mkd (remB ms a n) i = if i < a then mkd ms i else mkd ms (i + n) := by
  by_cases hi : i < 0
  · rw [if_pos (by omega), mkd_neg hi, mkd_neg hi]
  · obtain ⟨j, rfl⟩ := Int.eq_ofNat_of_zero_le (by omega : 0 ≤ i)
    have htl : (ms.take a).length = a := by rw [List.length_take]; omega
    rw [mkd_of]
    by_cases h1 : j < a
    · rw [if_pos (by omega), mkd_of, List.getD, List.getD, List.getElem?_append_left (by omega), List.getElem?_take, if_pos h1]
    · rw [if_neg (by omega), show (j : Int) + n = ((j + n : Nat) : Int) from by omega, mkd_of, List.getD, List.getD, List.getElem?_append_right (by omega), htl, List.getElem?_drop, show a + n + (j - a) = j + n from by omega]
theorem insB_len {ms : List Bool} {a n : Nat} {v : Bool} (ha : a ≤ ms.length) : (insB ms a n v).length = ms.length + n := by
  simp only [List.length_append, List.length_take, List.length_replicate, List.length_drop]; omega
theorem mkset_end {ms : List Bool} {L : List Sp} (h : MkSet ms L) : endOf (-1) L ≤ ms.length := by
  by_cases hne : L = []
  · subst hne
    show (-1 : Int) ≤ _
    omega
  · have h2 := hasB_last h.1 hne
    rw [h.2] at h2
    by_cases hc : endOf (-1) L ≤ ms.length
    · exact hc
    · rw [mk_hi (by omega)] at h2
      cases h2
/-- what spans hands back: the spans of the flags l, without an error -/
def SpR (w : World) (l : List Bool) (e : Ending) (w' : World) : Prop := ∃ A L, e = .returned (.tuple #[.slice A (L : List Sp).length L.length, .int .i64 0]) ∧ MkSet l L ∧ Rd w' w'.heap.size A L ∧ Below w.heap.size w w'
theorem SpR.of {w w' : World} {l : List Bool} {m : Int → Bool} {e : Ending} (h : SetRes m e w') (hm : ∀ i, m i = mkd l i) (hb : Below w.heap.size w w') (hl : l.length ≤ 4000) : SpR w l e w' := by
  obtain ⟨out, hv, ho, hr⟩ := h
  have hk : MkSet l out := ⟨hv, fun i => (ho i).trans (hm i)⟩
  have := hk.len
  rcases hr with ⟨_, A, he, hrd⟩ | ⟨h, _⟩
  · exact ⟨A, out, he, hk, hrd, hb⟩
  · omega
theorem spIns {w : World} {A : Option Addr} {c : Nat} {l : List Bool} {L : List Sp} (hk : MkSet l L) (hr : Rd w w.heap.size A L) (a n : Nat) (hl : l.length ≤ 1000) (ha : a ≤ l.length) (hn : n ≤ 1000) :
    Calls Tryd.prog 29 #[.slice A L.length c, .int .i64 a, .int .i64 n] w (SpR w (insB l a n false)) := by
  have h1 := hk.len
  have h2 := mkset_end hk
  refine (ins_ok A c L a n w hr (chk_of_val hk.1 (by omega)) (by omega) (by omega) (by omega) (by omega) (.inr (by omega))).mono ?_
  rintro e w' ⟨h3, h4⟩
  refine SpR.of h3 (fun i => ?_) h4 (by rw [insB_len ha]; omega)
  unfold insM
  rw [insB_mk ha, hk.2, hk.2]
theorem spRem {w : World} {A : Option Addr} {c : Nat} {l : List Bool} {L : List Sp} (hk : MkSet l L) (hr : Rd w w.heap.size A L) (a n : Nat) (hl : l.length ≤ 1000) (ha : a ≤ l.length) (hn : n ≤ 1000) :
    Calls Tryd.prog 30 #[.slice A L.length c, .int .i64 a, .int .i64 n] w (SpR w (remB l a n)) := by
  have h1 := hk.len
  refine (rem_ok A c L a n w hr (chk_of_val hk.1 (by omega)) (by omega) (by omega) (by omega) (by omega)).mono ?_
  rintro e w' ⟨h3, h4⟩
  refine SpR.of h3 (fun i => ?_) h4 (by simp only [List.length_append, List.length_take, List.length_drop]; omega)
  unfold remM
  rw [remB_mk ha, hk.2, hk.2]
/-- a list of spans lies in no block of flags -/
theorem rd_fr {w w' : World} {B b n : Nat} {A : Option Addr} {xs : List Sp} {ws : List Nat} (h : Rd w B A xs) (hB : B ≤ w.heap.size) (hw : Raw w b n ws) (hf : Fr w w' b) : Rd w' B A xs := fun k hk => by
  obtain ⟨g, o, e, hg, c0, c1⟩ := h k hk
  have hne : g ≠ b := by
    rintro rfl
    by_cases hi : o + k * 2 < 64
    · have := hw.cell (o + k * 2) hi
      rw [Nat.add_comm 1, c1] at this
      cases this
    · rw [cell_of_row _ _ _ _ 64 (0, 0) hw.box] at c1
      have hl := hw.len
      have : (fcells n ws).toArray.size = 65 := by simp [fcells, hl]
      rw [Array.getElem?_eq_none (by omega)] at c1
      cases c1
  have hcell : ∀ j, w'.cell? ⟨g, j, none⟩ = w.cell? ⟨g, j, none⟩ := fun j => by
    unfold World.cell?
    simp only [hf.block g (Nat.lt_of_lt_of_le hg hB) hne]
  exact ⟨g, o, e, hg, (hcell _).trans c0, (hcell _).trans c1⟩
theorem Rd.next' {W W' : World} {A : Option Addr} {xs : List Sp} (h : Rd W W.heap.size A xs) (hb : Below W.heap.size W W') : Rd W' W'.heap.size A xs := (h.below hb).more hb.size
theorem rd_ch {w w' : World} {b : Nat} {l m : List Bool} {A : Option Addr} {xs : List Sp} {e : Ending} (h : Rd w w.heap.size A xs) (hw : Fl w b l) (hc : Ch w b m e w') : Rd w' w'.heap.size A xs :=
  (rd_fr h (Nat.le_refl _) hw hc.2.2).more hc.2.2.size
end Go.Proofs.YtbdjpacmbaoaeaaDoor
