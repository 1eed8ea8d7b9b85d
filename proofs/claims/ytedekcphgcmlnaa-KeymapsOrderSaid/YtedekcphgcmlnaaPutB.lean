/- Put of a new key. -/
import Derived.Test.YtedekcphgcmlnaaPutA
namespace Go.Proofs.Ytedekcphgcmlnaa
open Go.RowKit

theorem Fr.setAny {w w' : World} {b S : Nat} (h : Fr w w' b S) {p : Addr} (hp : p.block = S ∨ w.heap.size ≤ p.block) (u : Value) : Fr w (w'.setCell p u) b S :=
  ⟨h.os, h.tape, h.output, by simpa [World.setCell] using h.size, fun i hi h1 h2 => (Below.heap_setCell w' p u i (by omega)).trans (h.block i hi h1 h2)⟩
theorem below_drewN (w : World) (n : Nat) : Below w.heap.size w (w.drewN n) := ⟨rfl, rfl, rfl, Nat.le_refl _, fun _ _ => rfl⟩
theorem Fr.trans2' {w w1 w2 : World} {b S : Nat} (h : Fr w w1 b S) {S' : Nat} (k : Fr w1 w2 b S') (hS : S' = S ∨ S' = b := by first | exact .inl rfl | exact .inr rfl) : Fr w w2 b S :=
  ⟨k.os.trans h.os, k.tape.trans h.tape, k.output.trans h.output, Nat.le_trans h.size k.size, fun i hi h1 h2 => (k.block i (Nat.lt_of_lt_of_le hi h.size) h1 (by rcases hS with e | e <;> (subst e; assumption))).trans (h.block i hi h1 h2)⟩
theorem set_world2 {w w1 : World} {b s s0 i n c : Nat} {S : List Sl} {x : Sl} {K T : Int} (hr : Row w1 s S) (ho : w1.heap[b]? = some (.cells #[.slice (some ⟨s, 0, none⟩) n c, .int .i64 K, .int .i64 T] 54 (0, 0))) (hF : Fr w w1 b s0) (hi : i < S.length) (hsb : ¬ (s = b)) (hss : s = s0 ∨ w.heap.size ≤ s)
    {y0 y1 y2 : Int} (e0 : y0 = x.st) (e1 : y1 = x.key) (e2 : y2 = x.val) :
    ∃ W : World, Row W s (S.set i x) ∧ W.heap[b]? = some (.cells #[.slice (some ⟨s, 0, none⟩) n c, .int .i64 K, .int .i64 T] 54 (0, 0)) ∧ Fr w W b s0 ∧
      W = ((w1.setCell ⟨s, i * 3, none⟩ (.int .u8 y0)).setCell ⟨s, i * 3 + 1, none⟩ (.int .u64 y1)).setCell ⟨s, i * 3 + 2, none⟩ (.int .i64 y2) := by
  subst e0
  subst e1
  subst e2
  have hbs : b ≠ s := fun e => hsb e.symm
  refine ⟨_, hr.set hi x, ?_, ?_, rfl⟩
  · refine (Below.heap_setCell _ _ _ b hbs).trans ?_
    refine (Below.heap_setCell _ _ _ b hbs).trans ?_
    exact (Below.heap_setCell _ _ _ b hbs).trans ho
  · exact ((hF.setAny hss _).setAny hss _).setAny hss _
theorem dec_world {w w1 : World} {b s s0 n c : Nat} {S : List Sl} {K T T2 : Int} (hr : Row w1 s S) (ho : w1.heap[b]? = some (.cells #[.slice (some ⟨s, 0, none⟩) n c, .int .i64 K, .int .i64 T] 54 (0, 0))) (hF : Fr w w1 b s0) (hsb : ¬ (s = b)) :
    ∃ W : World, Row W s S ∧ W.heap[b]? = some (.cells #[.slice (some ⟨s, 0, none⟩) n c, .int .i64 K, .int .i64 T2] 54 (0, 0)) ∧ Fr w W b s0 ∧ W = w1.setCell ⟨b, 2, none⟩ (.int .i64 T2) :=
  ⟨_, hr.oth hsb, set3_2 ho, hF.setCell (.inl rfl) _, rfl⟩
set_option maxRecDepth 100000 in
set_option maxHeartbeats 4000000 in
theorem put_room {w : World} {b s M : Nat} {S : List Sl} {L : PL} (h : Mp w b s S) (hg : Good S L M) (k v : Int) (hk : k ≠ 0) (hh : hasK L k = false) (hl : L.length < 4096) (hr : 4 * (L.length + tms S + 1) ≤ 3 * S.length) :
    Calls Try.prog 14 #[.pointer (some ⟨b, 0, none⟩), .int .u64 k, .int .i64 v] w (Puts M b s (putL L k v) w) := by
  have hS : S ≠ [] := fun e => by
    subst e
    simp at hr
  have h1 := Lib.hid (find_map h hg hS k)
  have HM := Lib.hid h
  have HGd := Lib.hid hg
  have HH := Lib.hid hh
  have hk' : (k = 0) = False := by simp [hk]
  have hln := hg.len
  have hlong := hg.long
  clear h hg hh
  go_enter Try.func14, Try.ntmps14
  go_wp2_with fail
  refine h1.out.mono ?_
  rintro e w1 ⟨i, f, rfl, ⟨rfl, hm⟩ | ⟨rfl, hm⟩, hb⟩
  · exact absurd HH.out (by rw [(HGd.out.hit hm).1]; decide)
  · have HP := Lib.hid (HGd.out.put_new hm hk v hl hr)
    have hlt := hm.lt
    have hcnt := HGd.out.cnt
    have HIS := Lib.hid hm.is
    have HMp := Lib.hid (HM.out.next hb)
    have HFr : Hid (Fr w w1 b s) := Lib.hid (Fr.of_below hb)
    obtain ⟨c, h4, _⟩ := HMp.out.full hS
    have c0 := h4.c0
    have c1 := h4.c1
    have c2 := h4.c2
    have q0 : ((prs S).length : Int) = (L.length : Int) := by rw [hln]
    have hr' : ¬ (3 * (S.length : Int) < 4 * ((L.length : Int) + (tms S : Int) + 1)) := by omega
    rw [q0] at c1
    clear h4 hb hm hr
    go_upto_region 11 with fail
    go_quiet (fail)
    go_upto_region 14 with fail
    obtain ⟨W, hW⟩ : ∃ W : World, w1.drewN nq = W := ⟨_, rfl⟩
    rw [hW]
    replace HMp : Hid (Mp W b s S) := Lib.hid (by rw [← hW]; exact HMp.out.next (below_drewN _ _))
    replace HFr : Hid (Fr w W b s) := Lib.hid (by rw [← hW]; exact HFr.out.drewN _)
    clear hW c0 c1 c2
    rcases HIS.out with hx | hx
    · obtain ⟨c, h4, h5, h6, h7, h8⟩ := HMp.out.full hS
      have c0 := h4.c0
      have c1 := h4.c1
      have c2 := h4.c2
      have f1 := h4.frozen 1
      have f2 := h4.frozen 2
      obtain ⟨d0, d1, d2⟩ := h5.get hx
      have g0 := h5.frozen (i * 3)
      have g1 := h5.frozen (i * 3 + 1)
      have g2 := h5.frozen (i * 3 + 2)
      replace d0 : W.cell? ⟨s, i * 3, none⟩ = some (.int .u8 0) := d0
      have H4 := Lib.hid h4.whole
      have H5 := Lib.hid h5
      have HX := Lib.hid hx
      have hsb : ¬ (s = b) := h6
      clear h4 h5 hx
      go_upto_region 17 with fail
      obtain ⟨W2, hR, hO, hF, hW⟩ := set_world2 (x := .taken k v) H5.out H4.out HFr.out hlt hsb (.inl rfl) (show (1 : Int) = _ from rfl) (show k = _ from rfl) (show v = _ from rfl)
      rw [← hW]
      have HR := Lib.hid hR
      have HO := Lib.hid hO
      have HF := Lib.hid hF
      clear hW hR hO hF c0 c1 c2 f1 f2 d0 d1 d2 g0 g1 g2
      have c1 := (obj3 HO.out).c1
      have f1 := (obj3 HO.out).frozen 1
      have hlen2 := HGd.out.len
      have hlim2 := HGd.out.lim
      go_wp2_with fail
      go_ret
      obtain ⟨p0, p1, p2⟩ := HP.out
      refine ⟨by rw [p0]; rfl, HF.out.setCell (.inl rfl) _, s, _, ?_, p2.more (by omega), (.inl rfl)⟩
      refine mp_of (n := S.length) (c := c) (set3_1 HO.out) List.length_set ?_ ?_ (HR.out.oth hsb) hsb h7 h8 (by omega)
      · rw [p2.len, p1]; rfl
      · have := tms_set HX.out (.taken k v)
        simp [Sl.isTomb] at this
        rw [this]
    · obtain ⟨c, h4, h5, h6, h7, h8⟩ := HMp.out.full hS
      have c0 := h4.c0
      have c1 := h4.c1
      have c2 := h4.c2
      have f1 := h4.frozen 1
      have f2 := h4.frozen 2
      obtain ⟨d0, d1, d2⟩ := h5.get hx
      have g0 := h5.frozen (i * 3)
      have g1 := h5.frozen (i * 3 + 1)
      have g2 := h5.frozen (i * 3 + 2)
      replace d0 : W.cell? ⟨s, i * 3, none⟩ = some (.int .u8 2) := d0
      have H4 := Lib.hid h4.whole
      have H5 := Lib.hid h5
      have HX := Lib.hid hx
      have hsb : ¬ (s = b) := h6
      clear h4 h5 hx
      go_upto_region 16 with fail
      obtain ⟨W1, hR1, hO1, hF1, hW1⟩ := dec_world H5.out H4.out HFr.out hsb
      have hdec : (tms S : Int) - 1 = ((tms S - 1 : Nat) : Int) := by have := tms_set HX.out (.taken k v); simp [Sl.isTomb] at this; omega
      rw [← hW1]
      have HR1 := Lib.hid hR1
      have HO1 := Lib.hid hO1
      have HF1 := Lib.hid hF1
      clear hW1 hR1 hO1 hF1 c0 c1 c2 f1 f2 d0 d1 d2 g0 g1 g2
      have c0 := (obj3 HO1.out).c0
      obtain ⟨d0, d1, d2⟩ := HR1.out.get HX.out
      have g0 := HR1.out.frozen (i * 3)
      have g1 := HR1.out.frozen (i * 3 + 1)
      have g2 := HR1.out.frozen (i * 3 + 2)
      go_upto_region 17 with fail
      obtain ⟨W2, hR, hO, hF, hW⟩ := set_world2 (x := .taken k v) HR1.out HO1.out HF1.out hlt hsb (.inl rfl) (show (1 : Int) = _ from rfl) (show k = _ from rfl) (show v = _ from rfl)
      rw [← hW]
      have HR := Lib.hid hR
      have HO := Lib.hid hO
      have HF := Lib.hid hF
      clear hW hR hO hF c0 d0 d1 d2 g0 g1 g2
      have c1 := (obj3 HO.out).c1
      have f1 := (obj3 HO.out).frozen 1
      have hlen2 := HGd.out.len
      have hlim2 := HGd.out.lim
      go_wp2_with fail
      go_ret
      obtain ⟨p0, p1, p2⟩ := HP.out
      refine ⟨by rw [p0]; rfl, HF.out.setCell (.inl rfl) _, s, _, ?_, p2.more (by omega), (.inl rfl)⟩
      refine mp_of (n := S.length) (c := c) (set3_1 HO.out) List.length_set ?_ ?_ (HR.out.oth hsb) hsb h7 h8 (by omega)
      · rw [p2.len, p1]; rfl
      · have := tms_set HX.out (.taken k v)
        simp [Sl.isTomb] at this
        omega
set_option maxRecDepth 100000 in
set_option maxHeartbeats 4000000 in
theorem put_more {w : World} {b s M : Nat} {S : List Sl} {L : PL} (h : Mp w b s S) (hg : Good S L M) (k v : Int) (hk : k ≠ 0) (hh : hasK L k = false) (hl : L.length < 4096) (hr : ¬ (4 * (L.length + tms S + 1) ≤ 3 * S.length)) :
    Calls Try.prog 14 #[.pointer (some ⟨b, 0, none⟩), .int .u64 k, .int .i64 v] w (Puts M b s (putL L k v) w) := by
  have h1 : Hid (Calls Try.prog 26 #[.pointer (some ⟨b, 0, none⟩), .int .u64 k] w fun e w' => ∃ i : Nat, e = .returned (.tuple #[.int .i64 i, .bool false]) ∧ Below w.heap.size w w') := by
    by_cases hS : S = []
    · subst hS
      refine (find_none h.nil k).mono ?_
      rintro e w' ⟨rfl, rfl⟩
      exact ⟨0, rfl, Below.refl _ _⟩
    · refine (find_map h hg hS k).mono ?_
      rintro e w' ⟨i, f, rfl, ⟨rfl, hm⟩ | ⟨rfl, hm⟩, hb⟩
      · exact absurd hh (by rw [(hg.hit hm).1]; decide)
      · exact ⟨i, rfl, hb⟩
  have HM := Lib.hid h
  have HGd0 := Lib.hid hg
  have HH := Lib.hid hh
  have hk' : (k = 0) = False := by simp [hk]
  have hln := hg.len
  have hlong := hg.long
  have hroom := hg.room
  clear h hg hh
  go_enter Try.func14, Try.ntmps14
  go_wp2_with fail
  refine h1.out.mono ?_
  rintro e w1 ⟨i0, rfl, hb⟩
  obtain ⟨A, c, h4⟩ := (HM.out.next hb).any
  have c0 := h4.c0
  have c1 := h4.c1
  have c2 := h4.c2
  have q0 : ((prs S).length : Int) = (L.length : Int) := by rw [hln]
  have hr' : 3 * (S.length : Int) < 4 * ((L.length : Int) + (tms S : Int) + 1) := by omega
  rw [q0] at c1
  have HB := Lib.hid hb
  clear h4 hb hr h1
  go_upto_region 11 with fail
  go_quiet (fail)
  go_upto_region 12 with fail
  obtain ⟨W0, hW0⟩ : ∃ W : World, w1.drewN nq = W := ⟨_, rfl⟩
  rw [hW0]
  have hb0 : Below w.heap.size w W0 := by rw [← hW0]; exact HB.out.trans ((below_drewN _ _).mono HB.out.size)
  have HRn := Lib.hid (renew_any (HM.out.next hb0) HGd0.out hl)
  have HB0 := Lib.hid hb0
  have hsz := hb0.size
  clear hW0 c0 c1 c2 HB hb0 hr' hroom
  go_wp2_with fail
  refine HRn.out.mono ?_
  rintro e w2 ⟨rfl, g, N, hM2, hG2, hr2, hN0, hgg, hF2, htN⟩
  have HM2 := Lib.hid hM2
  have HGd := Lib.hid hG2
  have HF2 := Lib.hid hF2
  have h2 := Lib.hid (find_map hM2 hG2 hN0 k)
  clear hM2 hG2 hF2 HRn
  go_wp2_with fail
  refine h2.out.mono ?_
  rintro e W ⟨i, f, rfl, ⟨rfl, hm⟩ | ⟨rfl, hm⟩, hb⟩
  · exact absurd HH.out (by rw [(HGd.out.hit hm).1]; decide)
  · have HP := Lib.hid (HGd.out.put_new hm hk v hl hr2)
    have hlt := hm.lt
    have hcnt := HGd.out.cnt
    have hlong := HGd.out.long
    have hx : N[i]? = some .free := by
      rcases hm.is with e | e
      · exact e
      · have := htN
        unfold tms at this
        rw [List.countP_eq_zero] at this
        exact absurd rfl (this _ (List.mem_of_getElem? e))
    have HMp := Lib.hid (HM2.out.next hb)
    have HFr : Hid (Fr w W b s) := Lib.hid (((Fr.of_below HB0.out).trans2' HF2.out).trans2' (Fr.of_below (b := b) (S := s) hb))
    have HSS : Hid (g = s ∨ w.heap.size ≤ g) := Lib.hid (.inr (by omega))
    have hS := hN0
    clear hb hm h2
    go_upto_region 14 with fail
    obtain ⟨c, h4, h5, h6, h7, h8⟩ := HMp.out.full hS
    have c0 := h4.c0
    have c1 := h4.c1
    have c2 := h4.c2
    have f1 := h4.frozen 1
    have f2 := h4.frozen 2
    obtain ⟨d0, d1, d2⟩ := h5.get hx
    have g0 := h5.frozen (i * 3)
    have g1 := h5.frozen (i * 3 + 1)
    have g2 := h5.frozen (i * 3 + 2)
    replace d0 : W.cell? ⟨g, i * 3, none⟩ = some (.int .u8 0) := d0
    have H4 := Lib.hid h4.whole
    have H5 := Lib.hid h5
    have HX := Lib.hid hx
    have hsb : ¬ (g = b) := h6
    clear h4 h5 hx
    go_upto_region 17 with fail
    obtain ⟨W2, hR, hO, hF, hW⟩ := set_world2 (x := .taken k v) H5.out H4.out HFr.out hlt hsb HSS.out (show (1 : Int) = _ from rfl) (show k = _ from rfl) (show v = _ from rfl)
    rw [← hW]
    have HR := Lib.hid hR
    have HO := Lib.hid hO
    have HF := Lib.hid hF
    clear hW hR hO hF c0 c1 c2 f1 f2 d0 d1 d2 g0 g1 g2
    have c1 := (obj3 HO.out).c1
    have f1 := (obj3 HO.out).frozen 1
    have hlen2 := HGd.out.len
    have hlim2 := HGd.out.lim
    go_wp2_with fail
    go_ret
    obtain ⟨p0, p1, p2⟩ := HP.out
    refine ⟨by rw [p0]; rfl, HF.out.setCell (.inl rfl) _, g, _, ?_, p2.more (by omega), HSS.out⟩
    refine mp_of (n := N.length) (c := c) (set3_1 HO.out) List.length_set ?_ ?_ (HR.out.oth hsb) hsb h7 h8 (by omega)
    · rw [p2.len, p1]; rfl
    · have := tms_set HX.out (.taken k v)
      simp [Sl.isTomb] at this
      rw [this]
theorem put_any {w : World} {b s M : Nat} {S : List Sl} {L : PL} (h : Mp w b s S) (hg : Good S L M) (k v : Int) :
    Calls Try.prog 14 #[.pointer (some ⟨b, 0, none⟩), .int .u64 k, .int .i64 v] w (Puts M b s (putL L k v) w) := by
  by_cases hk : k = 0
  · subst hk
    exact put_k0 h hg v
  cases hh : hasK L k with
  | true => exact put_old h hg k v hk hh
  | false =>
    have := hg.lim
    by_cases hl : L.length = 4096
    · exact put_lim h hg k v hk hh hl
    · by_cases hr : 4 * (L.length + tms S + 1) ≤ 3 * S.length
      · exact put_room h hg k v hk hh (by omega) hr
      · exact put_more h hg k v hk hh (by omega) hr
end Go.Proofs.Ytedekcphgcmlnaa
