/- Copy. -/
import Derived.Test.YtedekcphgcmlnaaPutB
import Derived.Maps.AppendAt
import Derived.Laws.AppendOwnNone
import Derived.Lib.SliceRun
namespace Go.Proofs.Ytedekcphgcmlnaa
open Go.RowKit

theorem sv_one (S : List Sl) : ∀ u ∈ sv S, u.oneCell' = true := by
  intro u hu
  simp only [sv, c3, List.mem_flatMap, List.mem_cons, List.not_mem_nil, or_false] at hu
  obtain ⟨s, _, rfl | rfl | rfl⟩ := hu <;> rfl
theorem Row.news {w : World} {s : Nat} {S : List Sl} (h : Row w s S) : ∀ j u, (sv S)[j]? = some u → w.cell? ((⟨s, 0, none⟩ : Addr).add j) = some u := by
  intro j v hj
  obtain ⟨rest, hr⟩ := h
  have hlt := (List.getElem?_eq_some_iff.1 hj).1
  rw [add_plain, Nat.zero_add]
  refine cell_of_row _ _ j _ 59 (0, 0) hr |>.trans ?_
  simp [List.getElem?_append_left hlt, hj]
theorem wp_app59 {w : World} {ops : Array Oper} {rest : List Oper} {o : Oper} {a : Act} {Q : Exit → Act → World → Prop} (hgd : o.guard = none) (s x : Operand) (ho : o.op = .call { callee := .builtin .append, args := #[s, x], argTypes := #[52, 52] })
    (base : Nat) (v : Value) (hs : a.eval s = v) (b c n : Nat) (S : List Sl) (hx : a.eval x = .slice (some ⟨b, 0, none⟩) n c) (hn : n = S.length) (hown : w.ownsRow base 59 3 v 0 []) (hsrc : Row w b S) (hlen : S.length ≤ 1000000) (h0 : 0 < S.length) (hbase : base ≤ w.heap.size) (hvb : ∀ j, v.ownBlock = some j → base ≤ j)
    (h : ∀ g c' w', Hid (Row w' g S) → Hid (base ≤ g) → Hid (S.length ≤ c') → Hid (c' ≤ 9223372036854775807) → Hid (Below base w w') → wpList Try.prog ops Q rest (a.put o.dst (.slice (some ⟨g, 0, none⟩) S.length c')) w') : wpList Try.prog ops Q (o :: rest) a w := by
  subst hn
  refine wpList_plain hgd fun K hK => ?_
  obtain ⟨i0, hi0, hz0, hz1, hz2⟩ := info_parts info59
  obtain ⟨v', w', hr, h2, h3, h4, _⟩ := run_append_own_at (P := Try.prog) w base 52 o.type 59 i0 (.agg #[.int .u8 0, .int .u64 0, .int .i64 0]) 3 24 Try.underlying52 hi0 hz0 hz1 hz2 rfl (by omega) v 0 [] hown ⟨b, 0, none⟩ S.length c (sv S) (sv_len S) hsrc.news (sv_one _)
    (by simp [maxLen]; omega) (by omega) hbase
  rw [Nat.zero_add, List.nil_append] at h2
  have hb3 : Below base w w' := (Below.refl _ _).grown h3 hbase hvb
  rcases h2.2 with ⟨_, h0'⟩ | ⟨g, cap, cur, rfl, hg, hgr, hcap, hmax, hsize, htake⟩
  · omega
  · unfold Oper.wp execOp
    simp only [ho, resolve, invoke, builtin, Sem.run_bind, Sem.run_pure, Result.andThen_ok, List.map_toArray, List.map_cons, List.map_nil, hs, hx, hr]
    refine hK _ _ (h g cap w' (Lib.hid ⟨cur.toList.drop (S.length * 3), ?_⟩) (Lib.hid hg) (Lib.hid hcap) (Lib.hid (by unfold maxLen at hmax; omega)) (Lib.hid hb3))
    rw [← htake, List.take_append_drop]
    exact hgr
theorem made59 (w : World) : (w.alloc (.cells #[] 59)).ownsRow w.heap.size 59 3 (.slice (some ⟨w.heap.size, 0, none⟩) 0 0) 0 [] := World.ownsRow_made w #[] 0 (Nat.le_refl _) (by simp [maxLen]) rfl
set_option maxHeartbeats 1000000 in
theorem clone_any {w : World} {s c : Nat} {S : List Sl} (hr : Row w s S) (hS : S ≠ []) (hn : S.length ≤ 8192) :
    Calls Try.prog 28 #[.slice (some ⟨s, 0, none⟩) S.length c] w fun e w' => ∃ g c', e = .returned (.slice (some ⟨g, 0, none⟩) S.length c') ∧ Row w' g S ∧ w.heap.size ≤ g ∧ S.length ≤ c' ∧ c' ≤ 9223372036854775807 ∧ Below w.heap.size w w' := by
  have h0 : 0 < S.length := List.length_pos_iff.2 hS
  have HO := Lib.hid (made59 w)
  have HB := Lib.hid ((Below.refl w.heap.size w).alloc (Nat.le_refl _) (.cells #[] 59))
  have HR := Lib.hid (hr.keep (HB.out.block s hr.lt))
  clear hr
  have he := fun W : World => Lib.run_eql_slice_nil W 52 59 (some ⟨s, 0, none⟩) S.length c 0 0 Try.underlying52
  go_enter Try.func28, Try.ntmps28
  go_wp2_with (
    at_builtin
    refine wp_app59 rfl (.tmp 5) (.tmp 6) rfl w.heap.size (.slice (some ⟨w.heap.size, 0, none⟩) 0 0) rfl s c S.length S rfl rfl HO.out HR.out (by omega) h0 HB.out.size (fun j e => by injection e with e; subst e; exact Nat.le_refl _) ?_
    intro g c' w' H1 H2 H3 H4 H5)
  go_ret
  exact ⟨g, c', rfl, H1.out, H2.out, H3.out, H4.out, HB.out.trans H5.out⟩
theorem clone_nil (w : World) : Calls Try.prog 28 #[.slice none 0 0] w fun e w' => e = .returned (.slice none 0 0) ∧ w' = w := by
  have he := fun W : World => Lib.run_eql_slice_nil W 52 59 none 0 0 0 0 Try.underlying52
  go_enter Try.func28, Try.ntmps28
  go_wp2_with fail
  go_ret
  exact ⟨rfl, rfl⟩
theorem keep1 {w w1 : World} {b n c : Nat} {A : Option Addr} {k t : Int} (h : w.heap[b]? = some (.cells #[.slice A n c, .int .i64 k, .int .i64 t] 54 (0, 0))) (kk : Below w.drew.heap.size w.drew w1) :
    w1.cell? ⟨b, 0, none⟩ = some (.slice A n c) ∧ w1.cell? ⟨b, 1, none⟩ = some (.int .i64 k) ∧ w1.cell? ⟨b, 2, none⟩ = some (.int .i64 t) :=
  have k4 := obj3 ((kk.block b (heap_lt h)).trans h)
  ⟨k4.c0, k4.c1, k4.c2⟩
theorem keep2 {w w1 : World} {b n c : Nat} {A : Option Addr} {k t : Int} (h : w.heap[b]? = some (.cells #[.slice A n c, .int .i64 k, .int .i64 t] 54 (0, 0))) (kk : Below w.drew.heap.size w.drew w1) (o : Obj) :
    (w1.alloc o).cell? ⟨b, 0, none⟩ = some (.slice A n c) ∧ (w1.alloc o).cell? ⟨b, 1, none⟩ = some (.int .i64 k) ∧ (w1.alloc o).cell? ⟨b, 2, none⟩ = some (.int .i64 t) :=
  have hl : b < w.drew.heap.size := heap_lt h
  have k4 := obj3 ((Below.heap_alloc w1 o b (Nat.lt_of_lt_of_le hl kk.size)).trans ((kk.block b hl).trans h))
  ⟨k4.c0, k4.c1, k4.c2⟩
theorem keep3 {w : World} {b : Nat} {x y z : Value} (h0 : w.cell? ⟨b, 0, none⟩ = some x) (h1 : w.cell? ⟨b, 1, none⟩ = some y) (h2 : w.cell? ⟨b, 2, none⟩ = some z) (hb : b < w.heap.size) (o : Obj) :
    (w.drew.alloc o).cell? ⟨b, 0, none⟩ = some x ∧ (w.drew.alloc o).cell? ⟨b, 1, none⟩ = some y ∧ (w.drew.alloc o).cell? ⟨b, 2, none⟩ = some z := by
  have hk : Below w.heap.size w (w.drew.alloc o) := Below.alloc (show Below w.heap.size w w.drew from below_drewN w 1) (Nat.le_refl _) o
  exact ⟨(hk.cell (p := ⟨b, 0, none⟩) hb).trans h0, (hk.cell (p := ⟨b, 1, none⟩) hb).trans h1, (hk.cell (p := ⟨b, 2, none⟩) hb).trans h2⟩
/-- what Copy gives -/
def Copies (S : List Sl) (w : World) (e : Ending) (w' : World) : Prop := ∃ b s, e = .returned (.pointer (some ⟨b, 0, none⟩)) ∧ Mp w' b s S ∧ w.heap.size ≤ b ∧ w.heap.size ≤ s ∧ Below w.heap.size w w'
set_option maxRecDepth 100000 in
set_option maxHeartbeats 4000000 in
theorem copy_any {w : World} {b s M : Nat} {S : List Sl} {L : PL} (h : Mp w b s S) (hg : Good S L M) :
    Calls Try.prog 20 #[.pointer (some ⟨b, 0, none⟩)] w (Copies S w) := by
  by_cases hS : S = []
  · subst hS
    have h4 := h.nil
    have c0 := h4.c0
    have c1 := h4.c1
    have c2 := h4.c2
    have HC := Lib.hid (clone_nil w.drew)
    have hbl := h.lt
    clear h hg h4
    go_enter Try.func20, Try.ntmps20
    go_upto_region 3 with fail
    go_region_held3 (fun U => U.cell? ⟨b, 0, none⟩ = some (.slice none 0 0) ∧ U.cell? ⟨b, 1, none⟩ = some (.int .i64 0) ∧ U.cell? ⟨b, 2, none⟩ = some (.int .i64 0))
      (first
        | exact ⟨c0, c1, c2⟩
        | exact keep3 c0 c1 c2 hbl _
        | fail)
      (first | (go_at_call 28; (with_reducible refine HC.out.mono ?_); rintro e w1 ⟨rfl, rfl⟩) | fail)
    all_goals
      go_wp2_with fail
      go_ret
      refine ⟨w.heap.size, w.heap.size, rfl, ⟨⟨none, 0, new_at _ rfl, fun _ => ⟨rfl, rfl⟩, fun h => absurd rfl h⟩, fun h => absurd rfl h⟩, Nat.le_refl _, Nat.le_refl _, ?_⟩
      exact Below.alloc (show Below w.heap.size w w.drew from below_drewN w 1) (Nat.le_refl _) _
  · obtain ⟨c, h4, h5, h6, h7, h8⟩ := h.full hS
    have c0 := h4.c0
    have c1 := h4.c1
    have c2 := h4.c2
    have HC := Lib.hid (clone_any (w := w.drew) (c := c) (show Row w.drew s S from h5) hS hg.long)
    have H4 := Lib.hid h4.whole
    have hbl := h.lt
    clear h hg h4 h5
    go_enter Try.func20, Try.ntmps20
    go_upto_region 3 with fail
    go_region_held3 (fun U => U.cell? ⟨b, 0, none⟩ = some (.slice (some ⟨s, 0, none⟩) S.length c) ∧ U.cell? ⟨b, 1, none⟩ = some (.int .i64 (prs S).length) ∧ U.cell? ⟨b, 2, none⟩ = some (.int .i64 (tms S)))
      (first
        | exact ⟨c0, c1, c2⟩
        | exact keep1 H4.out kk.out
        | exact keep2 H4.out kk.out _
        | fail)
      (first | (go_at_call 28; (with_reducible refine HC.out.mono ?_); rintro e w1 ⟨g, c', rfl, hr1, hg1, hle, hmx, kk0⟩; have kk := Lib.hid kk0; have hr2 := Lib.hid hr1; have hg2 := Lib.hid hg1; have hle2 := Lib.hid hle; have hmx2 := Lib.hid hmx; clear kk0 hr1 hg1 hle hmx) | fail)
    all_goals
      go_wp2_with fail
      go_ret
      refine ⟨w1.heap.size, g, rfl, ?_, kk.out.size, hg2.out, ?_⟩
      · have hgl := hr2.out.lt
        refine mp_of (n := S.length) (c := c') (new_at _ rfl) rfl rfl rfl (hr2.out.keep (Below.heap_alloc _ _ g hgl)) (by omega) hle2.out hmx2.out (List.length_pos_iff.2 hS)
      · have hk := kk.out
        exact Below.alloc (show Below w.heap.size w w1 from ⟨hk.os, hk.tape, hk.output, hk.size, hk.block⟩) hk.size _
end Go.Proofs.Ytedekcphgcmlnaa
