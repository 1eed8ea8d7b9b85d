/- Put. -/
import Derived.Test.YtedekcphgcmlnaaRenW
namespace Go.Proofs.Ytedekcphgcmlnaa
open Go.RowKit

theorem renew_any {w : World} {b s M : Nat} {S : List Sl} {L : PL} (h : Mp w b s S) (hg : Good S L M) (hl : L.length < 4096) :
    Calls Try.prog 27 #[.pointer (some ⟨b, 0, none⟩)] w fun e w' => e = .returned (.tuple #[]) ∧ ∃ g N, Mp w' b g N ∧ Good N L (max M (L.length + 1)) ∧ 4 * (L.length + tms N + 1) ≤ 3 * N.length ∧ N ≠ [] ∧ w.heap.size ≤ g ∧ Fr w w' b b ∧ tms N = 0 := by
  refine (renew_walk h hg hl).mono ?_
  rintro e w' ⟨rfl, q, n, g, N, hq, hn, h1, h2, hR⟩
  obtain ⟨g1, g2⟩ := hR.ren.good hg hl hq hn h1 h2
  have hN := hR.ren.len
  have hne : N ≠ [] := fun e => by rw [e] at hN; simp at hN; omega
  have hbl := h.lt
  have hgg := hR.gg
  refine ⟨rfl, g, N, ?_, g1, g2, hne, hgg, hR.fr, hR.ren.nt⟩
  have hlong := g1.long
  refine mp_of (n := n) (c := n) hR.obj hN ?_ ?_ hR.row (by omega) (Nat.le_refl _) (by omega) (by omega)
  · rw [g1.len]
  · rw [hR.ren.nt]; rfl
theorem put_nil (w : World) (k v : Int) : Calls Try.prog 14 #[.pointer none, .int .u64 k, .int .i64 v] w fun e w' => e = .returned (.int .i64 2) ∧ w' = w := by
  go_enter Try.func14, Try.ntmps14
  go_wp2_with fail
  go_ret
  exact ⟨rfl, rfl⟩
/-- what Put gives -/
def Puts (M b s : Nat) (R : PL × Int) (w : World) (e : Ending) (w' : World) : Prop :=
  e = .returned (.int .i64 R.2) ∧ Fr w w' b s ∧ ∃ s' S', Mp w' b s' S' ∧ Good S' R.1 (max M R.1.length) ∧ (s' = s ∨ w.heap.size ≤ s')
theorem put_k0 {w : World} {b s M : Nat} {S : List Sl} {L : PL} (h : Mp w b s S) (hg : Good S L M) (v : Int) :
    Calls Try.prog 14 #[.pointer (some ⟨b, 0, none⟩), .int .u64 0, .int .i64 v] w (Puts M b s (putL L 0 v) w) := by
  rw [put_zero]
  go_enter Try.func14, Try.ntmps14
  go_wp2_with fail
  go_ret
  exact ⟨rfl, Fr.refl _ _ _, s, S, h, hg.more (by omega), .inl rfl⟩
set_option maxRecDepth 100000 in
set_option maxHeartbeats 2000000 in
theorem put_old {w : World} {b s M : Nat} {S : List Sl} {L : PL} (h : Mp w b s S) (hg : Good S L M) (k v : Int) (hk : k ≠ 0) (hh : hasK L k = true) :
    Calls Try.prog 14 #[.pointer (some ⟨b, 0, none⟩), .int .u64 k, .int .i64 v] w (Puts M b s (putL L k v) w) := by
  have hS : S ≠ [] := fun e => by
    subst e
    rw [hg.nil_of] at hh
    cases hh
  have h1 := Lib.hid (find_map h hg hS k)
  have HM := Lib.hid h
  have HG := Lib.hid hg
  have HH := Lib.hid hh
  have hk' : (k = 0) = False := by simp [hk]
  clear h hg hh
  go_enter Try.func14, Try.ntmps14
  go_wp2_with fail
  refine h1.out.mono ?_
  rintro e w1 ⟨i, f, rfl, ⟨rfl, hh⟩ | ⟨rfl, hh⟩, hb⟩
  · obtain ⟨_, h3⟩ := HG.out.hit hh
    obtain ⟨p0, p1, p2⟩ := HG.out.put_old hh hk v
    have hlt := hh.lt
    obtain ⟨c, h4, h5, h6, h7, h8⟩ := (HM.out.next hb).full hS
    have c0 := h4.c0
    have d2 : w1.cell? ⟨s, i * 3 + 2, none⟩ = some (.int .i64 (valK L k)) := (h5.get h3).2.2
    have g2 := h5.frozen (i * 3 + 2)
    have HB := Lib.hid hb
    have HP := Lib.hid (And.intro p0 (And.intro p1 p2))
    have H4 := Lib.hid h4.whole
    have H5 := Lib.hid (h5.val h3 v)
    have H3 := Lib.hid h3
    have hcnt := HG.out.cnt
    clear h4 h5 hb h3 hh p0 p1 p2
    go_wp2_with fail
    go_ret
    obtain ⟨p0, p1, p2⟩ := HP.out
    have hbs : b ≠ s := fun e => h6 e.symm
    refine ⟨by rw [p0]; rfl, (Fr.of_below HB.out).setCell (.inr rfl) _, s, _, ?_, p2.more (by omega), .inl rfl⟩
    refine mp_of (n := S.length) (c := c) ((Below.heap_setCell _ _ _ b hbs).trans H4.out) List.length_set ?_ ?_ H5.out h6 h7 h8 (by omega)
    · rw [p2.len, p1, HG.out.len]
    · have := tms_set H3.out (.taken k v)
      simp [Sl.isTomb] at this
      rw [this]
  · exact absurd HH.out (by rw [(HG.out.miss hh).1]; decide)
set_option maxRecDepth 100000 in
set_option maxHeartbeats 2000000 in
theorem put_lim {w : World} {b s M : Nat} {S : List Sl} {L : PL} (h : Mp w b s S) (hg : Good S L M) (k v : Int) (hk : k ≠ 0) (hh : hasK L k = false) (hl : L.length = 4096) :
    Calls Try.prog 14 #[.pointer (some ⟨b, 0, none⟩), .int .u64 k, .int .i64 v] w (Puts M b s (putL L k v) w) := by
  have hS : S ≠ [] := fun e => by
    subst e
    rw [hg.nil_of] at hl
    cases hl
  rw [put_full hk v hh hl]
  have h1 := Lib.hid (find_map h hg hS k)
  have HM := Lib.hid h
  have HG := Lib.hid hg
  have HH := Lib.hid hh
  have hk' : (k = 0) = False := by simp [hk]
  have hln := hg.len
  rw [hl] at hln
  clear h hg hh
  go_enter Try.func14, Try.ntmps14
  go_wp2_with fail
  refine h1.out.mono ?_
  rintro e w1 ⟨i, f, rfl, ⟨rfl, hh⟩ | ⟨rfl, hh⟩, hb⟩
  · exact absurd HH.out (by rw [(HG.out.hit hh).1]; decide)
  · obtain ⟨c, h4, _⟩ := (HM.out.next hb).full hS
    have c1 := h4.c1
    have HB := Lib.hid hb
    rw [hln] at c1
    clear h4 hb hh
    go_wp2_with fail
    go_ret
    exact ⟨rfl, Fr.of_below HB.out, s, S, HM.out.next HB.out, HG.out.more (by omega), .inl rfl⟩
end Go.Proofs.Ytedekcphgcmlnaa
