/- Get, Drop. -/
import Derived.Test.YtedekcphgcmlnaaFindW
namespace Go.Proofs.Ytedekcphgcmlnaa
open Go.RowKit

theorem find_map {w : World} {b s M : Nat} {S : List Sl} {L : PL} (h : Mp w b s S) (hg : Good S L M) (hS : S ≠ []) (k : Int) :
    Calls Try.prog 26 #[.pointer (some ⟨b, 0, none⟩), .int .u64 k] w (Finds S k w) := by
  obtain ⟨c, h1, h2, _⟩ := h.full hS
  obtain ⟨hq, hf⟩ := hg.ex hS
  exact find_some h1 h2 hg.path hq hf k
theorem get_nil (w : World) (k : Int) : Calls Try.prog 15 #[.pointer none, .int .u64 k] w fun e w' => e = .returned (.tuple #[.int .i64 0, .bool false]) ∧ w' = w := by
  have h1 := Lib.hid (find_nil w k)
  go_enter Try.func15, Try.ntmps15
  go_wp2_with fail
  refine h1.out.mono ?_
  rintro e w1 ⟨rfl, rfl⟩
  go_wp2_with fail
  go_ret2
  exact ⟨rfl, rfl⟩
theorem drop_nil (w : World) (k : Int) : Calls Try.prog 12 #[.pointer none, .int .u64 k] w fun e w' => e = .returned (.bool false) ∧ w' = w := by
  have h1 := Lib.hid (find_nil w k)
  go_enter Try.func12, Try.ntmps12
  go_wp2_with fail
  refine h1.out.mono ?_
  rintro e w1 ⟨rfl, rfl⟩
  go_wp2_with fail
  go_ret
  exact ⟨rfl, rfl⟩
set_option maxHeartbeats 1000000 in
theorem get_any {w : World} {b s M : Nat} {S : List Sl} {L : PL} (h : Mp w b s S) (hg : Good S L M) (k : Int) :
    Calls Try.prog 15 #[.pointer (some ⟨b, 0, none⟩), .int .u64 k] w fun e w' => e = .returned (.tuple #[.int .i64 (valK L k), .bool (hasK L k)]) ∧ Below w.heap.size w w' := by
  by_cases hS : S = []
  · subst hS
    obtain rfl := hg.nil_of
    have h1 := Lib.hid (find_none h.nil k)
    have e1 : valK [] k = 0 := rfl
    have e2 : hasK [] k = false := rfl
    rw [e1, e2]
    clear h hg
    go_enter Try.func15, Try.ntmps15
    go_wp2_with fail
    refine h1.out.mono ?_
    rintro e w1 ⟨rfl, rfl⟩
    go_wp2_with fail
    go_ret2
    exact ⟨rfl, Below.refl _ _⟩
  · have h1 := Lib.hid (find_map h hg hS k)
    have HM := Lib.hid h
    have HG := Lib.hid hg
    clear h hg
    go_enter Try.func15, Try.ntmps15
    go_wp2_with fail
    refine h1.out.mono ?_
    rintro e w1 ⟨i, f, rfl, ⟨rfl, hh⟩ | ⟨rfl, hh⟩, hb⟩
    · obtain ⟨h2, h3⟩ := HG.out.hit hh
      have hlt := hh.lt
      obtain ⟨c, h4, h5, _⟩ := (HM.out.next hb).full hS
      have c0 := h4.c0
      have d2 : w1.cell? ⟨s, i * 3 + 2, none⟩ = some (.int .i64 (valK L k)) := (h5.get h3).2.2
      have HB := Lib.hid hb
      have H2 := Lib.hid h2
      clear h4 h5 hb h3 hh h2
      go_wp2_with fail
      go_ret2
      exact ⟨by rw [H2.out]; rfl, HB.out⟩
    · obtain ⟨h2, h3⟩ := HG.out.miss hh
      have HB := Lib.hid hb
      have H2 := Lib.hid h2
      have H3 := Lib.hid h3
      clear hb hh h2 h3
      go_wp2_with fail
      go_ret2
      exact ⟨by rw [H2.out, H3.out]; rfl, HB.out⟩
theorem mp_of {W : World} {b s n c : Nat} {K T : Int} {S : List Sl} (hb : W.heap[b]? = some (.cells #[.slice (some ⟨s, 0, none⟩) n c, .int .i64 K, .int .i64 T] 54 (0, 0))) (hn : S.length = n) (hK : K = (prs S).length) (hT : T = tms S) (hr : Row W s S) (hs : s ≠ b) (hc : n ≤ c) (hc2 : c ≤ 9223372036854775807) (h0 : 0 < n) : Mp W b s S := by
  subst hn
  subst hK
  subst hT
  exact ⟨⟨_, c, hb, fun e => by rw [e] at h0; exact absurd h0 (by simp), fun _ => ⟨rfl, hc, hc2⟩⟩, fun _ => ⟨hr, hs⟩⟩
theorem oth {W : World} {p : Addr} {u : Value} {i : Nat} {o : Option Obj} (h : W.heap[i]? = o) (hi : i ≠ p.block) : (W.setCell p u).heap[i]? = o := (Below.heap_setCell W p u i hi).trans h
theorem Row.oth {W : World} {p : Addr} {u : Value} {s : Nat} {S : List Sl} (h : Row W s S) (hi : s ≠ p.block) : Row (W.setCell p u) s S := h.keep (Below.heap_setCell W p u s hi)
theorem set_world {w w1 : World} {b s i n c : Nat} {S : List Sl} {x : Sl} {K T : Int} (hr : Row w1 s S) (ho : w1.heap[b]? = some (.cells #[.slice (some ⟨s, 0, none⟩) n c, .int .i64 K, .int .i64 T] 54 (0, 0))) (hF : Fr w w1 b s) (hi : i < S.length) (hsb : ¬ (s = b))
    {y0 y1 y2 : Int} (e0 : y0 = x.st) (e1 : y1 = x.key) (e2 : y2 = x.val) :
    ∃ W : World, Row W s (S.set i x) ∧ W.heap[b]? = some (.cells #[.slice (some ⟨s, 0, none⟩) n c, .int .i64 K, .int .i64 T] 54 (0, 0)) ∧ Fr w W b s ∧
      W = ((w1.setCell ⟨s, i * 3, none⟩ (.int .u8 y0)).setCell ⟨s, i * 3 + 1, none⟩ (.int .u64 y1)).setCell ⟨s, i * 3 + 2, none⟩ (.int .i64 y2) := by
  subst e0
  subst e1
  subst e2
  have hbs : b ≠ s := fun e => hsb e.symm
  refine ⟨_, hr.set hi x, ?_, ?_, rfl⟩
  · refine (Below.heap_setCell _ _ _ b hbs).trans ?_
    refine (Below.heap_setCell _ _ _ b hbs).trans ?_
    exact (Below.heap_setCell _ _ _ b hbs).trans ho
  · exact ((hF.setCell (.inr rfl) _).setCell (.inr rfl) _).setCell (.inr rfl) _
set_option maxHeartbeats 2000000 in
theorem drop_any {w : World} {b s M : Nat} {S : List Sl} {L : PL} (h : Mp w b s S) (hg : Good S L M) (k : Int) :
    Calls Try.prog 12 #[.pointer (some ⟨b, 0, none⟩), .int .u64 k] w fun e w' => e = .returned (.bool (dropL L k).2) ∧ Fr w w' b s ∧ ∃ S', Mp w' b s S' ∧ Good S' (dropL L k).1 M := by
  by_cases hS : S = []
  · subst hS
    have h1 := Lib.hid (find_none h.nil k)
    have HM := Lib.hid h
    have HG := Lib.hid hg
    obtain rfl := hg.nil_of
    have e1 : dropL [] k = ([], false) := rfl
    rw [e1]
    clear h hg
    go_enter Try.func12, Try.ntmps12
    go_wp2_with fail
    refine h1.out.mono ?_
    rintro e w1 ⟨rfl, rfl⟩
    go_wp2_with fail
    go_ret
    exact ⟨rfl, Fr.refl _ _ _, [], HM.out, HG.out⟩
  · have h1 := Lib.hid (find_map h hg hS k)
    have HM := Lib.hid h
    have HG := Lib.hid hg
    clear h hg
    go_enter Try.func12, Try.ntmps12
    go_wp2_with fail
    refine h1.out.mono ?_
    rintro e w1 ⟨i, f, rfl, ⟨rfl, hh⟩ | ⟨rfl, hh⟩, hb⟩
    · obtain ⟨h2, h3⟩ := HG.out.hit hh
      have hD := HG.out.drop hh
      have hlt := hh.lt
      obtain ⟨c, h4, h5, h6, h7, h8⟩ := (HM.out.next hb).full hS
      have c0 := h4.c0
      have c1 := h4.c1
      have c2 := h4.c2
      have f1 := h4.frozen 1
      have f2 := h4.frozen 2
      obtain ⟨d0, d1, d2⟩ := h5.get h3
      have g0 := h5.frozen (i * 3)
      have g1 := h5.frozen (i * 3 + 1)
      have g2 := h5.frozen (i * 3 + 2)
      have H2 := Lib.hid (drop_yes h2)
      clear h2
      have HB := Lib.hid hb
      have HD := Lib.hid hD
      have H4 := Lib.hid h4.whole
      have H5 := Lib.hid h5
      have hsb : ¬ (s = b) := h6
      have hln := HG.out.len
      have hlim := HG.out.lim
      have hroom := HG.out.room
      have hlong := HG.out.long
      have hlD := hD.1
      have z1 : IntKind.i64.wrap (((prs S).length : Int) - 1) = ((dropL L k).1.length : Int) := by rw [IntWalk.i64_in _ (by omega)]; omega
      have z2 : IntKind.i64.wrap ((tms S : Int) + 1) = ((tms S + 1 : Nat) : Int) := by rw [IntWalk.i64_in _ (by omega)]; omega
      clear h4 h5 hb h3 hh hD hln hlim hroom hlong hlD
      go_upto_region 5 with fail
      obtain ⟨W, hR, hO, hF, hW⟩ := set_world (x := .tomb) H5.out H4.out (Fr.of_below (b := b) (S := s) HB.out) hlt hsb (show (2 : Int) = _ from rfl) (show (0 : Int) = _ from rfl) (show (0 : Int) = _ from rfl)
      rw [← hW]
      clear hW c0 c1 c2 f1 f2 d0 d1 d2 g0 g1 g2
      have c1 := (obj3 hO).c1
      have c2 := (obj3 hO).c2
      have f1 := (obj3 hO).frozen 1
      have f2 := (obj3 hO).frozen 2
      have HR := Lib.hid hR
      have HO := Lib.hid hO
      have HF := Lib.hid hF
      clear hR hO hF
      go_wp2_with fail
      go_ret
      have hD := HD.out
      refine ⟨by rw [H2.out]; rfl, (HF.out.setCell (.inl rfl) _).setCell (.inl rfl) _, S.set i .tomb, ?_, hD.2.2⟩
      refine mp_of (n := S.length) (c := c) (set3_2 (set3_1 HO.out)) List.length_set ?_ ?_ ((HR.out.oth hsb).oth hsb) hsb h7 h8 (by omega)
      · rw [hD.2.2.len]
      · rw [hD.2.1]; rfl
    · obtain ⟨h2, h3⟩ := HG.out.miss hh
      have HB := Lib.hid hb
      have H2 := Lib.hid (drop_no h2)
      clear hb hh h2 h3
      go_wp2_with fail
      go_ret
      exact ⟨by rw [H2.out]; rfl, Fr.of_below HB.out, S, HM.out.next HB.out, by rw [H2.out]; exact HG.out⟩
end Go.Proofs.Ytedekcphgcmlnaa
