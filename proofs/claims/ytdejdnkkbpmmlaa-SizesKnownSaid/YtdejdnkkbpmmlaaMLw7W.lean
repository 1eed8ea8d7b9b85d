/- The walk of the law SizesKnown. -/
import Derived.Test.YtdejdnkkbpmmlaaMKnA
namespace Go.Proofs.Ytdejdnkkbpmmlaa
open Go.RowKit

/-- the law's memory: the list of sizes, and what has changed -/
structure L7 (w W : World) (l : List Int) : Prop where
  s : RdI W W.heap.size (some ⟨w.heap.size, 0, none⟩) l
  u : Below w.heap.size w W
theorem L7.next {w W W' : World} {l : List Int} (h : L7 w W l) (kk : Below W.heap.size W W') : L7 w W' l := ⟨fun k hk => by
  obtain ⟨b, o, e, h1, h2⟩ := h.s k hk
  exact ⟨b, o, e, Nat.lt_of_lt_of_le h1 kk.size, (kk.cell (p := ⟨b, _, none⟩) h1).trans h2⟩, h.u.trans (kk.mono h.u.size)⟩
/-- behind the first four insertions -/
structure M7 (w W : World) (l : List Int) (g : Nat) (r : List (Int × Bool)) (t : T) (p A : Option Addr) (c : Nat) (xs : List S.Sp) : Prop where
  l7 : L7 w W l
  vx : Vx w W g r t p A c xs
  lo : w.heap.size ≤ g
theorem M7.next {w W W' : World} {l : List Int} {g : Nat} {r : List (Int × Bool)} {t : T} {p A : Option Addr} {c : Nat} {xs : List S.Sp} (h : M7 w W l g r t p A c xs) (kk : Below W.heap.size W W') : M7 w W' l g r t p A c xs := ⟨h.l7.next kk, h.vx.next kk, h.lo⟩
theorem tot_is {w : World} {r : List (Int × Bool)} {t : T} {p A : Option Addr} {c : Nat} {xs : List S.Sp} (h : Ix w r t p A c xs) {x : Int} (hx : (sz r).sum = x) : Calls Try.prog 28 #[.agg #[.int .i64 t.count, .int .i64 t.total, .int .i64 t.depth, .pointer p]] w fun e w' => e = .returned (.int .i64 x) ∧ Below w.heap.size w w' := lv_tot h hx

/-- the variable of the next index lies there already -/
structure E7 (w W : World) (l : List Int) (g : Nat) : Prop where
  l7 : L7 w W l
  rm : Room5 W g
  lt : w.heap.size < g
theorem E7.next {w W W' : World} {l : List Int} {g : Nat} (h : E7 w W l g) (kk : Below W.heap.size W W') : E7 w W' l g := ⟨h.l7.next kk, h.rm.keep kk, h.lt⟩
theorem E7.new {w W : World} {l : List Int} (h : L7 w W l) (hl : 0 < l.length) : E7 w (W.alloc (.cells #[.int .i64 0, .int .i64 0, .int .i64 0, .pointer none, .slice none 0 0] 32)) l W.heap.size :=
  ⟨h.next (below_new _ _), ⟨_, _, _, _, _, heap_alloc_new W _⟩, by
    obtain ⟨b, o, e, h1, _⟩ := h.s 0 hl
    injection e with e
    injection e with e1 e2
    rw [e1]
    exact h1⟩
theorem L7.set5 {w W : World} {l : List Int} {g : Nat} (h : L7 w W l) (hg : w.heap.size < g) (a0 a1 a2 a3 a4 : Value) : L7 w (((((W.setCell ⟨g, 0, none⟩ a0).setCell ⟨g, 1, none⟩ a1).setCell ⟨g, 2, none⟩ a2).setCell ⟨g, 3, none⟩ a3).setCell ⟨g, 4, none⟩ a4) l :=
  ⟨fun k hk => by
    obtain ⟨b, o, e, h1, h2⟩ := h.s k hk
    have hb : b ≠ g := by
      injection e with e
      injection e with e1 e2
      rw [← e1]
      exact Nat.ne_of_lt hg
    exact ⟨b, o, e, Nat.lt_of_lt_of_le h1 (below_set5 (B := 0) (Below.refl 0 W) (Nat.zero_le _)).size, cell_set5 (p := ⟨b, _, none⟩) hb h2⟩, below_set5 h.u (Nat.le_of_lt hg)⟩
theorem E7.fin {w W : World} {l : List Int} {g : Nat} (h : E7 w W l g) {r : List (Int × Bool)} {t : T} {p A : Option Addr} {c : Nat} {xs : List S.Sp} (hx : Ix W r t p A c xs) (hf : Far g A xs) :
    M7 w (((((W.setCell ⟨g, 0, none⟩ (.int .i64 t.count)).setCell ⟨g, 1, none⟩ (.int .i64 t.total)).setCell ⟨g, 2, none⟩ (.int .i64 t.depth)).setCell ⟨g, 3, none⟩ (.pointer p)).setCell ⟨g, 4, none⟩ (.slice A xs.length c)) l g r t p A c xs :=
  have hl := h.l7.set5 h.lt (.int .i64 t.count) (.int .i64 t.total) (.int .i64 t.depth) (.pointer p) (.slice A xs.length c)
  ⟨hl, ⟨⟨hx.nd.set5 h.rm, hx.ls, rd_set5 hx.rd hf, hx.set, hx.cap, hx.vr⟩, heap_set5 h.rm, hl.u⟩, Nat.le_of_lt h.lt⟩
theorem M7.lt {w W : World} {l : List Int} {g : Nat} {r : List (Int × Bool)} {t : T} {p A : Option Addr} {c : Nat} {xs : List S.Sp} (h : M7 w W l g r t p A c xs) : g < W.heap.size := heap_lt h.vx.bx
/-- another index lies in a later variable -/
structure F7 (w W : World) (l : List Int) (g g' : Nat) (r : List (Int × Bool)) (t : T) (p A : Option Addr) (c : Nat) (xs : List S.Sp) : Prop where
  m : M7 w W l g r t p A c xs
  rm : Room5 W g'
  lt : w.heap.size < g'
  ne : g ≠ g'
  fr : Far g' A xs
theorem F7.next {w W W' : World} {l : List Int} {g g' : Nat} {r : List (Int × Bool)} {t : T} {p A : Option Addr} {c : Nat} {xs : List S.Sp} (h : F7 w W l g g' r t p A c xs) (kk : Below W.heap.size W W') : F7 w W' l g g' r t p A c xs := ⟨h.m.next kk, h.rm.keep kk, h.lt, h.ne, h.fr⟩
theorem F7.new {w W : World} {l : List Int} (hl : 0 < l.length) {g : Nat} {r : List (Int × Bool)} {t : T} {p A : Option Addr} {c : Nat} {xs : List S.Sp} (h : M7 w W l g r t p A c xs) : F7 w (W.alloc (.cells #[.int .i64 0, .int .i64 0, .int .i64 0, .pointer none, .slice none 0 0] 32)) l g W.heap.size r t p A c xs :=
  have e := E7.new h.l7 hl
  ⟨h.next (below_new _ _), e.rm, e.lt, Nat.ne_of_lt h.lt, far_rd h.vx.ix.rd⟩
theorem F7.fin {w W : World} {l : List Int} {g g' : Nat} {r : List (Int × Bool)} {t : T} {p A : Option Addr} {c : Nat} {xs : List S.Sp} (h : F7 w W l g g' r t p A c xs) (a0 a1 a2 a3 a4 : Value) :
    M7 w (((((W.setCell ⟨g', 0, none⟩ a0).setCell ⟨g', 1, none⟩ a1).setCell ⟨g', 2, none⟩ a2).setCell ⟨g', 3, none⟩ a3).setCell ⟨g', 4, none⟩ a4) l g r t p A c xs :=
  have hl := h.m.l7.set5 h.lt a0 a1 a2 a3 a4
  ⟨hl, ⟨⟨h.m.vx.ix.nd.set5 h.rm, h.m.vx.ix.ls, rd_set5 h.m.vx.ix.rd h.fr, h.m.vx.ix.set, h.m.vx.ix.cap, h.m.vx.ix.vr⟩, far_set5 h.ne h.m.vx.bx, hl.u⟩, h.m.lo⟩

set_option maxRecDepth 100000 in
set_option maxHeartbeats 16000000 in
theorem law7_any (w : World) :
    Calls Try.prog 7 #[] w fun e w' => e = .returned (.bool true) ∧ Below w.heap.size w w' := by
  have i0 := Lib.hid iK0; have i1 := Lib.hid iK1; have i2 := Lib.hid iK2; have i3 := Lib.hid iK3
  have hl0 : lK = lK := rfl
  have HM := Lib.hid isK
  generalize lK = l at *
  clear hl0
  have hlen : Hid (l.length = 1025) := Lib.hid HM.out.len
  have hmk := make_ints 1025 1025 rfl (by omega)
  obtain ⟨Z, hZ⟩ : ∃ Z, Z = ints (List.replicate 1025 0) := ⟨_, rfl⟩
  rw [← hZ] at hmk
  have h0 : Hid ((w.alloc (.cells Z 2)).heap[w.heap.size]? = some (.cells (ints (part l 0)) 2 (0, 0))) := Lib.hid (by rw [part_zero, hlen.out, ← hZ]; exact heap_alloc_new w _)
  have B0 : Hid (Below w.heap.size w (w.alloc (.cells Z 2))) := Lib.hid ((Below.refl _ _).alloc (Nat.le_refl _) _)
  clear hZ
  go_enter Try.func7, Try.ntmps7
  go_wp2_with fail
  go_loopw [2] (fun k wr => ∃ j : Nat, k = .int .i64 j ∧ j ≤ 1025 ∧ Hid (wr.heap[w.heap.size]? = some (.cells (ints (part l j)) 2 (0, 0))) ∧ Hid (Below w.heap.size w wr)) (fun k _ => 1025 - (intOf k).toNat)
  case atStart => exact ⟨0, rfl, Nat.zero_le _, h0, B0⟩
  case round =>
    obtain ⟨j, rfl, hj, HG, HB⟩ := hrel
    by_cases hlt : j < 1025
    · have hjl : j < l.length := by have := hlen.out; omega
      have hlp : j < (part l j).length := by rw [part_len l j (by omega)]; exact hjl
      have hcl : wr.cell? ⟨w.heap.size, j, none⟩ = some (.int .i64 0) := by
        rw [cell_of_row wr w.heap.size j (ints (part l j)) 2 (0, 0) HG.out]
        simp [ints, hlp, part_at hjl hlp]
      have hfz : wr.frozen? ⟨w.heap.size, j, none⟩ = false := by simp [World.frozen?, HG.out]
      have HS : Hid ((wr.setCell ⟨w.heap.size, j, none⟩ (.int .i64 (1 + (j : Int) % 3))).heap[w.heap.size]? = some (.cells (ints (part l (j + 1))) 2 (0, 0))) := Lib.hid (by
        have := row_set HG.out j l[j]
        have e := part_succ hjl hlp
        rw [part_at hjl hlp, Int.zero_add] at e
        rw [e] at this
        have e2 := HM.out.at_ j hjl
        rw [e2, show ((j % 3 : Nat) : Int) = (j : Int) % 3 from by omega] at this
        exact this)
      have HB' : Hid (Below w.heap.size w (wr.setCell ⟨w.heap.size, j, none⟩ (.int .i64 (1 + (j : Int) % 3)))) := Lib.hid (HB.out.setCell (p := ⟨w.heap.size, j, none⟩) (Nat.le_refl _) _)
      clear hlp hjl
      go_wp2_with fail
      go_roundw
      case rel => exact ⟨j + 1, by go_num, by omega, HS, HB'⟩
      case measure => simp [intOf]; omega
    · obtain rfl : j = 1025 := by omega
      have HG1 : Hid (wr.heap[w.heap.size]? = some (.cells (ints l) 2 (0, 0))) := Lib.hid (by have := HG.out; rwa [← hlen.out, part_all] at this)
      have M : Hid (L7 w wr l) := Lib.hid ⟨rdI_row HG1.out, HB.out⟩
      clear HG HG1 HB hj hlt hmk h0 B0
      go_upto_region 6 with fail
      have h0l : Hid (0 < l.length) := Lib.hid (by have := hlen.out; omega)
      have C0 := Lib.hid (show ∀ U, L7 w U l → Calls Try.prog 20 #[.agg #[.int .i64 0, .int .i64 0, .int .i64 0, .pointer none, .slice none 0 0], .int .i64 0, .slice (some ⟨w.heap.size, 0, none⟩) 1024 1025, .bool false] U (IxO rK 0 U) from fun U h => by
        have := IxE.o i0.out (in_any (Ix.none U) 0 false (d := 1025) (rdI_take h.s 1024) (by rw [List.length_take]; omega) (by decide))
        rw [show (l.take 1024).length = 1024 by rw [List.length_take, hlen.out]; rfl] at this
        exact this)
      have C1 := Lib.hid (show ∀ U, L7 w U l → Calls Try.prog 20 #[.agg #[.int .i64 0, .int .i64 0, .int .i64 0, .pointer none, .slice none 0 0], .int .i64 0, .slice (some ⟨w.heap.size, 0, none⟩) 1025 1025, .bool false] U (IxO [] 3 U) from fun U h => by
        have := IxE.o i1.out (in_any (Ix.none U) 0 false (d := 1025) h.s (by rw [hlen.out]; omega) (by decide))
        rw [hlen.out] at this
        exact this)
      have C2 := Lib.hid (show ∀ U g t p A c xs, M7 w U l g rK t p A c xs → Calls Try.prog 20 #[.agg #[.int .i64 t.count, .int .i64 t.total, .int .i64 t.depth, .pointer p, .slice A xs.length c], .int .i64 0, .slice (some ⟨w.heap.size, 0, none⟩) 1 1025, .bool true] U (IxO [] 3 U) from fun U g t p A c xs h => by
        have := IxE.o i2.out (in_any h.vx.ix 0 true (d := 1025) (rdI_take h.l7.s 1) (by rw [List.length_take]; omega) (by decide))
        rw [show (l.take 1).length = 1 by rw [List.length_take, hlen.out]; rfl] at this
        exact this)
      have C3 := Lib.hid (show ∀ U g t p A c xs, M7 w U l g rK t p A c xs → Calls Try.prog 20 #[.agg #[.int .i64 t.count, .int .i64 t.total, .int .i64 t.depth, .pointer p, .slice A xs.length c], .int .i64 1024, .slice none 0 0, .bool true] U (IxO rK 0 U) from fun U g t p A c xs h =>
        IxE.o i3.out (in_any h.vx.ix 1024 true (d := 0) RdI.nil (Nat.le_refl _) (by decide)))
      clear i0 i1 i2 i3 HM hlen
      have Md := Lib.hid (M.out.next (drew_below wr))
      have Ed := Lib.hid ((E7.new M.out h0l.out).next (drew_below _))
      clear M
      go_cut [3, 4] (fun s3 s4 wx => ∃ (g : Nat) (t : T) (p A : Option Addr) (c : Nat) (xs : List S.Sp), s3 = .pointer (some ⟨g, 0, none⟩) ∧ s4 = .int .i64 0 ∧ Hid (M7 w wx l g rK t p A c xs))
      case first =>
        go_region_held3 (fun _ => True) (trivial)
          (first
            | (go_at_call 29; (with_reducible refine (new_any wr.drew).mono ?_); rintro e w1 ⟨rfl, kk⟩; have M1 := Lib.hid (Md.out.next kk); have Ea := Lib.hid (E7.new M1.out h0l.out); clear kk)
            | (go_at_call 29; (with_reducible refine (new_any (wr.alloc (.cells #[.int .i64 0, .int .i64 0, .int .i64 0, .pointer none, .slice none 0 0] 32)).drew).mono ?_); rintro e w1 ⟨rfl, kk⟩; have E1 := Lib.hid (Ed.out.next kk); clear kk)
            | (go_at_call 20; (with_reducible refine (C0.out _ M1.out).mono ?_); rintro e w2 ⟨t, p, A, c, xs, rfl, hix, kk, _⟩; have hfin := Lib.hid (show M7 w (w2.alloc (.cells #[.int .i64 t.count, .int .i64 t.total, .int .i64 t.depth, .pointer p, .slice A xs.length c] 32)) l w2.heap.size rK t p A c xs from ⟨(M1.out.next kk).next (below_new _ _), Vx.new hix (M1.out.next kk).u, (M1.out.next kk).u.size⟩); clear hix kk)
            | (go_at_call 20; (with_reducible refine (C0.out _ E1.out.l7).mono ?_); rintro e w2 ⟨t, p, A, c, xs, rfl, hix, kk, hfar⟩; have E2 := E1.out.next kk; have hfin := Lib.hid (E2.fin hix (hfar _ (by obtain ⟨_, _, _, _, _, hh⟩ := E1.out.rm; exact heap_lt hh))); obtain ⟨v0, v1, v2, v3, v4, d0, d1, d2, d3, d4, f0, f1, f2, f3, f4⟩ := E2.rm.open_; clear hix kk hfar E2)
            | (go_at_call 20; (with_reducible refine (C0.out _ Ea.out.l7).mono ?_); rintro e w2 ⟨t, p, A, c, xs, rfl, hix, kk, hfar⟩; have E2 := Ea.out.next kk; have hfin := Lib.hid (E2.fin hix (hfar _ (by obtain ⟨_, _, _, _, _, hh⟩ := Ea.out.rm; exact heap_lt hh))); obtain ⟨v0, v1, v2, v3, v4, d0, d1, d2, d3, d4, f0, f1, f2, f3, f4⟩ := E2.rm.open_; clear hix kk hfar E2))
        all_goals (
          go_wp2_with fail
          go_meet
          exact ⟨_, t, p, A, c, xs, rfl, rfl, hfin⟩)
      case rest =>
      obtain ⟨g, t, p, A, c, xs, rfl, rfl, M2⟩ := hcut
      clear Md Ed C0
      go_wp2_with fail
      refine (new_any _).mono ?_
      rintro e w1 ⟨rfl, kk⟩
      have M3 := Lib.hid (M2.out.next kk)
      clear kk M2
      go_wp2_with fail
      refine (C1.out _ M3.out.l7).mono ?_
      rintro e w2 ⟨t5, p5, A5, c5, xs5, rfl, _, kk, _⟩
      have M4 := Lib.hid ((M3.out.next kk).next (below_new _ (.cells #[.int .i64 t5.count, .int .i64 t5.total, .int .i64 t5.depth, .pointer p5, .slice A5 xs5.length c5] 32)))
      clear kk M3 C1
      go_upto_region 8 with fail
      obtain ⟨V4, hV⟩ : ∃ V : World, w2.alloc (.cells #[.int .i64 t5.count, .int .i64 t5.total, .int .i64 t5.depth, .pointer p5, .slice A5 xs5.length c5] 32) = V := ⟨_, rfl⟩
      rw [hV] at M4 ⊢
      clear hV
      have PC := Lib.hid (show ∀ U, M7 w U l g rK t p A c xs → U.cell? ⟨g, 0, none⟩ = some (.int .i64 t.count) ∧ U.cell? ⟨g, 1, none⟩ = some (.int .i64 t.total) ∧ U.cell? ⟨g, 2, none⟩ = some (.int .i64 t.depth) ∧ U.cell? ⟨g, 3, none⟩ = some (.pointer p) ∧ U.cell? ⟨g, 4, none⟩ = some (.slice A xs.length c) from fun U h => box5 h.vx.bx)
      have Md := Lib.hid (M4.out.next (drew_below V4))
      have Fd := Lib.hid ((F7.new h0l.out M4.out).next (drew_below _))
      clear M4
      go_cut [7, 8] (fun s7 s8 wx => s8 = .int .i64 3 ∧ Hid (M7 w wx l g rK t p A c xs))
      case first =>
        go_region_held3 (fun U => U.cell? ⟨g, 0, none⟩ = some (.int .i64 t.count) ∧ U.cell? ⟨g, 1, none⟩ = some (.int .i64 t.total) ∧ U.cell? ⟨g, 2, none⟩ = some (.int .i64 t.depth) ∧ U.cell? ⟨g, 3, none⟩ = some (.pointer p) ∧ U.cell? ⟨g, 4, none⟩ = some (.slice A xs.length c))
          (first
            | with_reducible exact PC.out _ Md.out
            | with_reducible exact PC.out _ Fd.out.m
            | with_reducible exact PC.out _ M6.out
            | with_reducible exact PC.out _ (M6.out.next (below_new _ _))
            | with_reducible exact PC.out _ F6.m
            | with_reducible exact PC.out _ hfin.out)
          (first
            | (go_at_call 20; (with_reducible refine (C2.out _ _ _ _ _ _ _ Md.out).mono ?_); rintro e w6 ⟨t7, p7, A7, c7, xs7, rfl, _, kk, _⟩; have M6 := Lib.hid (Md.out.next kk); have hfin := Lib.hid (M6.out.next (below_new w6 (.cells #[.int .i64 t7.count, .int .i64 t7.total, .int .i64 t7.depth, .pointer p7, .slice A7 xs7.length c7] 32))); clear kk)
            | (go_at_call 20; (with_reducible refine (C2.out _ _ _ _ _ _ _ Fd.out.m).mono ?_); rintro e w6 ⟨t7, p7, A7, c7, xs7, rfl, _, kk, _⟩; have F6 := Fd.out.next kk; have hfin := Lib.hid (F6.fin (.int .i64 t7.count) (.int .i64 t7.total) (.int .i64 t7.depth) (.pointer p7) (.slice A7 xs7.length c7)); obtain ⟨v0, v1, v2, v3, v4, d0, d1, d2, d3, d4, f0, f1, f2, f3, f4⟩ := F6.rm.open_; clear kk))
        all_goals (
          go_wp2_with fail
          go_meet
          exact ⟨rfl, hfin⟩)
      case rest =>
      obtain ⟨rfl, M7⟩ := hcut
      clear Md Fd C2
      have HG := Lib.hid M7.out.lo
      have C := Lib.hid (C3.out _ _ _ _ _ _ _ M7.out)
      have N7 := Lib.hid M7.out.vx
      clear M7 C3 PC
      obtain ⟨x0, x1, x2, x3, x4⟩ := box5 N7.out.bx
      go_wp2_with fail
      refine C.out.mono ?_
      rintro e w9 ⟨t9, p9, A9, c9, xs9, rfl, hix, kk, _⟩
      have N9 := Lib.hid ((N7.out.next kk).lit (.cells #[.int .i64 t9.count, .int .i64 t9.total, .int .i64 t9.depth, .pointer p9, .slice A9 xs9.length c9] 32))
      have K9 := Lib.hid (Vx.new hix (N7.out.next kk).u)
      clear x0 x1 x2 x3 x4 kk hix C N7
      go_upto_region 10 with fail
      obtain ⟨g9, hg1⟩ : ∃ g, w9.heap.size = g := ⟨_, rfl⟩
      obtain ⟨V9, hV⟩ : ∃ V : World, w9.alloc (.cells #[.int .i64 t9.count, .int .i64 t9.total, .int .i64 t9.depth, .pointer p9, .slice A9 xs9.length c9] 32) = V := ⟨_, rfl⟩
      rw [hV] at N9 K9 ⊢
      rw [hg1] at K9 ⊢
      clear hV hg1
      have C := Lib.hid (lv_tot K9.out.ix rK_sum)
      obtain ⟨x0, x1, x2, x3, x4⟩ := box5 K9.out.bx
      go_wp2_with fail
      refine C.out.mono ?_
      rintro e w10 ⟨rfl, kk⟩
      have N10 := Lib.hid (N9.out.next kk)
      clear x0 x1 x2 x3 x4 kk C N9 K9
      have C := Lib.hid (lv_tot N10.out.ix rK_sum)
      obtain ⟨x0, x1, x2, x3, x4⟩ := box5 N10.out.bx
      go_wp2_with fail
      refine C.out.mono ?_
      rintro e w11 ⟨rfl, kk⟩
      have N11 := Lib.hid (N10.out.next kk)
      clear x0 x1 x2 x3 x4 kk C N10
      have KD := Lib.hid kd_zero
      generalize rK = r at *
      go_wp2_with fail
      go_loopw [11] (fun k wr => ∃ (j : Nat) (R : List (Int × Bool)) (t : T) (p A : Option Addr) (c : Nat) (xs : List S.Sp), k = .int .i64 j ∧ j ≤ 1024 ∧ j % 2 = 0 ∧ Hid (Kd R j) ∧ Hid (Vx w wr g R t p A c xs)) (fun k _ => 1024 - (intOf k).toNat)
      case atStart => exact ⟨0, r, t, p, A, c, xs, rfl, Nat.zero_le _, rfl, KD, N11⟩
      case round =>
        clear KD N11
        obtain ⟨j, R, t, p, A, c, xs, rfl, hj, hj2, KD, NJ⟩ := hrel
        by_cases hlt : j < 1024
        · obtain ⟨es, kd⟩ := KD.out.set hlt hj2
          have KD' := Lib.hid kd
          have C := Lib.hid (IxE.o es (st_any NJ.out.ix (j : Int) 7 true (by omega)))
          clear es kd
          obtain ⟨x0, x1, x2, x3, x4⟩ := box5 NJ.out.bx
          go_wp2_with fail
          refine C.out.mono ?_
          rintro e w5 ⟨t', p', A', c', xs', rfl, hix, kk, hfar⟩
          have NB := NJ.out.next kk
          have N' := Lib.hid (NB.set hix (hfar g (heap_lt NJ.out.bx)) HG.out)
          obtain ⟨v0, v1, v2, v3, v4, d0, d1, d2, d3, d4, f0, f1, f2, f3, f4⟩ := NB.room.open_
          clear x0 x1 x2 x3 x4 kk hix hfar C NJ NB
          go_wp2_with fail
          go_roundw
          case rel => exact ⟨j + 2, _, t', p', A', c', xs', by go_num, by omega, by omega, KD', N'⟩
          case measure => simp [intOf]; omega
        · obtain rfl : j = 1024 := by omega
          obtain ⟨Y, em, hyl, hy0, hy1⟩ := KD.out.mov
          have C := Lib.hid (unk_is NJ.out.ix (a := 1000) (b := 1024) (v := 1001) (by decide) (by decide) (by rw [KD.out.len]; decide) ⟨by decide, by decide⟩ (KD.out.kn_ 1001 (by decide)) (fun j h1 h2 => by
            obtain rfl : j = 1000 := by omega
            exact KD.out.kn_ 1000 (by decide)))
          have EM := Lib.hid em
          have HY := Lib.hid hyl
          have HY0 := Lib.hid hy0
          have HY1 := Lib.hid hy1
          clear em hyl hy0 hy1 KD HG hj hj2 hlt
          obtain ⟨x0, x1, x2, x3, x4⟩ := box5 NJ.out.bx
          go_wp2_with fail
          refine C.out.mono ?_
          rintro e w5 ⟨rfl, kk⟩
          have N5 := Lib.hid (NJ.out.next kk)
          clear x0 x1 x2 x3 x4 kk C NJ
          have C := Lib.hid (IxE.o EM.out (mv_any N5.out.ix 0 1 1023 (by decide) (by decide)))
          obtain ⟨x0, x1, x2, x3, x4⟩ := box5 N5.out.bx
          go_wp2_with fail
          refine C.out.mono ?_
          rintro e w6 ⟨t3, p3, A3, c3, xs3, rfl, hix, kk, _⟩
          have K6 := Lib.hid (Vx.new hix (N5.out.next kk).u)
          clear x0 x1 x2 x3 x4 kk C N5 hix
          go_upto_region 20 with fail
          obtain ⟨g13, hg1⟩ : ∃ g, w6.heap.size = g := ⟨_, rfl⟩
          obtain ⟨V6, hV⟩ : ∃ V : World, w6.alloc (.cells #[.int .i64 t3.count, .int .i64 t3.total, .int .i64 t3.depth, .pointer p3, .slice A3 xs3.length c3] 32) = V := ⟨_, rfl⟩
          rw [hV, hg1] at K6 ⊢
          clear hV hg1
          have C := Lib.hid (unk_is K6.out.ix (a := 0) (b := 1024) (v := 0) (by decide) (by decide) (by rw [HY.out]; decide) ⟨by decide, by decide⟩ HY0.out (fun j h1 h2 => by omega))
          obtain ⟨x0, x1, x2, x3, x4⟩ := box5 K6.out.bx
          go_wp2_with fail
          refine C.out.mono ?_
          rintro e w7 ⟨rfl, kk⟩
          have K7 := Lib.hid (K6.out.next kk)
          clear x0 x1 x2 x3 x4 kk C K6
          have C := Lib.hid (known_any K7.out.ix 1023 (by decide))
          rw [show knownR Y 1023 = (true, 0) from by unfold knownR; rw [if_neg (by rw [HY.out]; decide), HY1.out]] at C
          obtain ⟨x0, x1, x2, x3, x4⟩ := box5 K7.out.bx
          go_wp2_with fail
          refine C.out.mono ?_
          rintro e w8 ⟨rfl, kk⟩
          have U8 := Lib.hid (K7.out.next kk).u
          clear x0 x1 x2 x3 x4 kk C K7 EM HY HY0 HY1
          go_wp2_with fail
          refine (new_any _).mono ?_
          rintro e w9 ⟨rfl, kk⟩
          have U9 := Lib.hid (U8.out.trans (kk.mono U8.out.size))
          clear kk U8
          have HL := Lib.hid (rdI_three w9 2305843009213693952 2305843009213693951 1)
          have UA := Lib.hid (U9.out.trans ((below_new w9 (.cells #[.int .i64 2305843009213693952, .int .i64 2305843009213693951, .int .i64 1] 2)).mono U9.out.size))
          have C := Lib.hid (IxE.o iP1 (in_any (Ix.none _) 0 true (d := 3) HL.out (by decide) (by decide)))
          go_wp2_with fail
          refine C.out.mono ?_
          rintro e w10 ⟨tp, pp, Ap, cp, xp, rfl, hix, kk, _⟩
          have P0 := Lib.hid (Vx.new hix (UA.out.trans (kk.mono UA.out.size)))
          clear kk hix HL UA U9 C
          go_upto_region 25 with fail
          obtain ⟨g16, hg1⟩ : ∃ g, w10.heap.size = g := ⟨_, rfl⟩
          obtain ⟨V10, hV⟩ : ∃ V : World, w10.alloc (.cells #[.int .i64 tp.count, .int .i64 tp.total, .int .i64 tp.depth, .pointer pp, .slice Ap xp.length cp] 32) = V := ⟨_, rfl⟩
          rw [hV, hg1] at P0 ⊢
          clear hV hg1
          go_wp2_with fail
          refine (new_any _).mono ?_
          rintro e w11 ⟨rfl, kk⟩
          have P1 := Lib.hid (P0.out.next kk)
          clear kk P0
          have HL := Lib.hid (rdI_three w11 2305843009213693952 2305843009213693952 1)
          have P2 := Lib.hid (P1.out.lit (.cells #[.int .i64 2305843009213693952, .int .i64 2305843009213693952, .int .i64 1] 2))
          have C := Lib.hid (IxE.o iP2 (in_any (Ix.none _) 0 true (d := 3) HL.out (by decide) (by decide)))
          go_wp2_with fail
          refine C.out.mono ?_
          rintro e w12 ⟨_, _, _, _, _, rfl, _, kk, _⟩
          have P3 := Lib.hid (P2.out.next kk)
          clear kk HL P1 P2 C
          have C := Lib.hid (IxE.o iP3 (st_any P3.out.ix 2 2 true (by decide)))
          obtain ⟨x0, x1, x2, x3, x4⟩ := box5 P3.out.bx
          go_wp2_with fail
          refine C.out.mono ?_
          rintro e w13 ⟨_, _, _, _, _, rfl, _, kk, _⟩
          have P4 := Lib.hid (P3.out.next kk)
          clear x0 x1 x2 x3 x4 kk P3 C
          have C := Lib.hid (IxE.o iP4 (st_any P4.out.ix 0 2305843009213693951 false (by decide)))
          obtain ⟨x0, x1, x2, x3, x4⟩ := box5 P4.out.bx
          go_wp2_with fail
          refine C.out.mono ?_
          rintro e w14 ⟨tq, pq, Aq, cq, xq, rfl, hix, kk, _⟩
          have P5 := Lib.hid ((P4.out.next kk).lit (.cells #[.int .i64 tq.count, .int .i64 tq.total, .int .i64 tq.depth, .pointer pq, .slice Aq xq.length cq] 32))
          have Q5 := Lib.hid (Vx.new hix (P4.out.next kk).u)
          clear x0 x1 x2 x3 x4 kk P4 C hix
          go_upto_region 28 with fail
          obtain ⟨g17, hg1⟩ : ∃ g, w14.heap.size = g := ⟨_, rfl⟩
          obtain ⟨V14, hV⟩ : ∃ V : World, w14.alloc (.cells #[.int .i64 tq.count, .int .i64 tq.total, .int .i64 tq.depth, .pointer pq, .slice Aq xq.length cq] 32) = V := ⟨_, rfl⟩
          rw [hV] at P5 Q5 ⊢
          rw [hg1] at Q5 ⊢
          clear hV hg1
          have C := Lib.hid (IxE.o iP5 (st_any Q5.out.ix 2 2 true (by decide)))
          obtain ⟨x0, x1, x2, x3, x4⟩ := box5 Q5.out.bx
          go_wp2_with fail
          refine C.out.mono ?_
          rintro e w15 ⟨ts, ps, As, cs, xs18, rfl, _, kk, _⟩
          have P6 := Lib.hid ((P5.out.next kk).lit (.cells #[.int .i64 ts.count, .int .i64 ts.total, .int .i64 ts.depth, .pointer ps, .slice As xs18.length cs] 32))
          have Q6 := Lib.hid ((Q5.out.next kk).lit (.cells #[.int .i64 ts.count, .int .i64 ts.total, .int .i64 ts.depth, .pointer ps, .slice As xs18.length cs] 32))
          clear x0 x1 x2 x3 x4 kk P5 Q5 C
          go_upto_region 29 with fail
          obtain ⟨V15, hV⟩ : ∃ V : World, w15.alloc (.cells #[.int .i64 ts.count, .int .i64 ts.total, .int .i64 ts.depth, .pointer ps, .slice As xs18.length cs] 32) = V := ⟨_, rfl⟩
          rw [hV] at P6 Q6 ⊢
          clear hV
          have HL := Lib.hid (rdI_two V15 1 1)
          have P7 := Lib.hid (P6.out.lit (.cells #[.int .i64 1, .int .i64 1] 2))
          have Q7 := Lib.hid (Q6.out.lit (.cells #[.int .i64 1, .int .i64 1] 2))
          have C := Lib.hid (IxE.o iP6 (in_any Q7.out.ix 3 false (d := 2) HL.out (by decide) (by decide)))
          obtain ⟨x0, x1, x2, x3, x4⟩ := box5 Q6.out.bx
          go_wp2_with fail
          refine C.out.mono ?_
          rintro e w16 ⟨tu, pu, Au, cu, xu, rfl, _, kk, _⟩
          have P8 := Lib.hid ((P7.out.next kk).lit (.cells #[.int .i64 tu.count, .int .i64 tu.total, .int .i64 tu.depth, .pointer pu, .slice Au xu.length cu] 32))
          clear x0 x1 x2 x3 x4 kk P6 Q6 P7 Q7 HL C
          go_upto_region 30 with fail
          obtain ⟨V16, hV⟩ : ∃ V : World, w16.alloc (.cells #[.int .i64 tu.count, .int .i64 tu.total, .int .i64 tu.depth, .pointer pu, .slice Au xu.length cu] 32) = V := ⟨_, rfl⟩
          rw [hV] at P8 ⊢
          clear hV
          go_wp2_with fail
          refine (new_any _).mono ?_
          rintro e w17 ⟨rfl, kk⟩
          have P9 := Lib.hid (P8.out.next kk)
          clear kk P8
          have HL := Lib.hid (rdI_three w17 2305843009213693952 2305843009213693952 0)
          have PA := Lib.hid (P9.out.lit (.cells #[.int .i64 2305843009213693952, .int .i64 2305843009213693952, .int .i64 0] 2))
          have C := Lib.hid (IxE.o iP7 (in_any (Ix.none _) 0 true (d := 3) HL.out (by decide) (by decide)))
          go_wp2_with fail
          refine C.out.mono ?_
          rintro e w18 ⟨tv, pv, Av, cv, xv, rfl, _, kk, _⟩
          have PB := Lib.hid ((PA.out.next kk).lit (.cells #[.int .i64 tv.count, .int .i64 tv.total, .int .i64 tv.depth, .pointer pv, .slice Av xv.length cv] 32))
          clear kk HL P9 PA C
          go_upto_region 31 with fail
          obtain ⟨V18, hV⟩ : ∃ V : World, w18.alloc (.cells #[.int .i64 tv.count, .int .i64 tv.total, .int .i64 tv.depth, .pointer pv, .slice Av xv.length cv] 32) = V := ⟨_, rfl⟩
          rw [hV] at PB ⊢
          clear hV
          have C := Lib.hid (lv_tot PB.out.ix rP_sum)
          obtain ⟨x0, x1, x2, x3, x4⟩ := box5 PB.out.bx
          go_wp2_with fail
          refine C.out.mono ?_
          rintro e w19 ⟨rfl, kk⟩
          have UC := Lib.hid (PB.out.next kk).u
          clear x0 x1 x2 x3 x4 kk PB C
          go_wp2_with fail
          refine (same_any (Ix.none w19) (B := none) (d := 0) RdR.nil 0).mono ?_
          rintro e w20 ⟨rfl, kk⟩
          have UD := Lib.hid (UC.out.trans (kk.mono UC.out.size))
          clear kk UC
          go_wp2_with fail
          refine (law3_any none 0 [] false 0 0 w20 (fun k hk => absurd hk (by simp)) (Nat.le_refl _) (by decide) (by decide)).mono ?_
          rintro e w21 ⟨rfl, kk⟩
          have UE := Lib.hid (UD.out.trans (kk.mono UD.out.size))
          clear kk UD
          go_wp2_with fail
          refine (lives_any _).mono ?_
          rintro e w22 ⟨rfl, kk⟩
          have UF := Lib.hid (UE.out.trans (kk.mono UE.out.size))
          clear kk UE
          go_wp2_with fail
          go_ret
          exact ⟨rfl, UF.out⟩
end Go.Proofs.Ytdejdnkkbpmmlaa
