/- The walk of the law FenwicksSet. -/
import Derived.Test.YthdohijhioocgaaRefSetW
import Derived.Laws.AppendOwnNone
namespace Go.Proofs.Ythdohijhioocgaa
open Go.RowKit

theorem Try.cells48 : Try.prog.cellsOf 48 = 2 := by kernel_rfl
/-- The slice value '.slice C n c' reads as the list of changes st, all of it below block B. -/
def RdS (w : World) (B : Nat) (C : Option Addr) (st : List (Int × Int)) : Prop :=
  ∀ k (h : k < st.length), ∃ b o, C = some ⟨b, o, none⟩ ∧ b < B ∧ w.cell? ⟨b, o + k * 2, none⟩ = some (.int .i64 st[k].1) ∧ w.cell? ⟨b, o + k * 2 + 1, none⟩ = some (.int .i64 st[k].2)
theorem RdS.below {w w' : World} {B : Nat} {C : Option Addr} {st : List (Int × Int)} (h : RdS w B C st) (hb : Below B w w') : RdS w' B C st := fun k hl => by
  obtain ⟨b, o, e, hl2, h1, h2⟩ := h k hl
  exact ⟨b, o, e, hl2, (hb.cell (p := ⟨b, o + k * 2, none⟩) hl2).trans h1, (hb.cell (p := ⟨b, o + k * 2 + 1, none⟩) hl2).trans h2⟩

set_option maxRecDepth 100000 in
set_option maxHeartbeats 1000000 in
theorem law4_long (hL : LivesOk) (A C : Option Addr) (c d m : Nat) (zs : List Int) (w : World) (hl : 40 < zs.length ∨ zs.length ≤ 40 ∧ 40 < m) (hl2 : zs.length ≤ 9223372036854775807) (hm : m ≤ 9223372036854775807) :
    Calls Try.prog 6 #[.slice A zs.length c, .slice C m d] w fun e w' => e = .returned (.bool true) ∧ Below w.heap.size w w' := by
  have HL := Lib.hid hL; clear hL
  rcases hl with hl | ⟨hl, hl3⟩
  · go_enter Try.func6, Try.ntmps6
    go_wp2_with fail
    refine (HL.out _).mono ?_
    rintro e w1 ⟨rfl, hb⟩
    go_wp2_with fail
    go_ret
    exact ⟨rfl, hb⟩
  · go_enter Try.func6, Try.ntmps6
    go_wp2_with fail
    refine (HL.out _).mono ?_
    rintro e w1 ⟨rfl, hb⟩
    go_wp2_with fail
    go_ret
    exact ⟨rfl, hb⟩
set_option maxRecDepth 100000 in
set_option maxHeartbeats 1000000 in
theorem law4_bad (hL : LivesOk) (A C : Option Addr) (c d m : Nat) (zs : List Int) (w : World) (hr : RdI w w.heap.size A zs) (hl : zs.length ≤ 40) (hm : m ≤ 40) (h0 : chk zs ≠ 0) :
    Calls Try.prog 6 #[.slice A zs.length c, .slice C m d] w fun e w' => e = .returned (.bool true) ∧ Below w.heap.size w w' := by
  have HL := Lib.hid hL; clear hL
  have h10 := Lib.hid (refCheck_any A c zs w hr (by omega))
  clear hr
  generalize chk zs = r at *
  have b1 : (r == 0) = false := by simpa using h0
  have b2 : (r != 0) = true := by simpa using h0
  clear h0
  go_enter Try.func6, Try.ntmps6
  go_wp2_with fail
  refine h10.out.mono ?_
  rintro e w' ⟨rfl, rfl⟩
  go_wp2_with fail
  refine (HL.out _).mono ?_
  rintro e w1 ⟨rfl, hb⟩
  go_wp2_with fail
  go_ret
  exact ⟨rfl, hb⟩

theorem refSet_any (A : Option Addr) (c : Nat) (l : List Int) (w : World) (hr : RdI w w.heap.size A l) (hv : Vd l) {i x : Int} {l' : List Int} {f : Int} (hs : SetTo l i x l' f) :
    Calls Try.prog 22 #[.slice A l.length c, .int .i64 i, .int .i64 x] w (RefSet w A l' f) := by
  rcases hs with ⟨ho, rfl, rfl⟩ | ⟨j, hj, rfl, ⟨hx, rfl, rfl⟩ | ⟨h0, h1, ⟨ho, rfl, rfl⟩ | ⟨ho, rfl, rfl⟩⟩⟩
  · exact refSet_out A c l' w hr i x ho
  · exact refSet_height A c l' w hr j hj x hx
  · exact (refSet_in A c l' w hr hv j hj x h0 h1).1 ho
  · exact (refSet_in A c l w hr hv j hj x h0 h1).2 ho

/-- what is true ahead of each change: the tree, and the list of the reference -/
structure St (w : World) (b S n : Nat) (D : Option Addr) (wr : World) (l : List Int) : Prop where
  tree : ∃ s, Tr wr b S l s
  rd : RdI wr wr.heap.size D l
  below : Below w.heap.size w wr
  hS : w.heap.size ≤ S
  len : l.length = n
  sep : ∀ g o, D = some ⟨g, o, none⟩ → g ≠ S
theorem St.drewN {w : World} {b S n : Nat} {D : Option Addr} {wr : World} {l : List Int} (h : St w b S n D wr l) (k : Nat) : St w b S n D (wr.drewN k) l :=
  ⟨h.tree.imp fun _ t => t.drewN k, h.rd, below_drewN h.below k, h.hS, h.len, h.sep⟩

/-- what the reference's Set leaves -/
def After1 (w : World) (b S n : Nat) (l l' : List Int) (f : Int) (b1 o1 : Nat) (x y : Int) (k : Nat) (D : Option Addr) (e : Ending) (w' : World) : Prop :=
  ∃ D' d', e = .returned (.tuple #[.slice D' n d', .int .i64 f]) ∧ St w b S n D w' l ∧ RdI w' w'.heap.size D' l' ∧ (∀ g o, D' = some ⟨g, o, none⟩ → g ≠ S) ∧ w'.cell? ⟨b1, o1 + k * 2, none⟩ = some (.int .i64 x) ∧ w'.cell? ⟨b1, o1 + k * 2 + 1, none⟩ = some (.int .i64 y)
theorem after1_any {w : World} {b S n : Nat} {D : Option Addr} {wr : World} {l : List Int} (h : St w b S n D wr l) (d : Nat) {C : Option Addr} {st : List (Int × Int)} (hst : RdS w w.heap.size C st) (k : Nat) (hk : k < st.length) (b1 o1 : Nat) (hC : C = some ⟨b1, o1, none⟩)
    {l' : List Int} {f : Int} (hs : SetTo l st[k].1 st[k].2 l' f) :
    Calls Try.prog 22 #[.slice D n d, .int .i64 st[k].1, .int .i64 st[k].2] wr (After1 w b S n l l' f b1 o1 st[k].1 st[k].2 k D) := by
  obtain ⟨s, ht⟩ := h.tree
  have hv := hs.vd ht.vd
  have hn := h.len
  subst hn
  refine (refSet_any D d l wr h.rd ht.vd hs).mono ?_
  rintro e w' ⟨D', d', rfl, hr, hb, hsp⟩
  have hbw := h.below.trans (hb.mono h.below.size)
  obtain ⟨b2, o2, e2, _, c1, c2⟩ := hst.below hbw k hk
  rw [hC] at e2
  injection e2 with e2
  injection e2 with e2 e3
  subst e2; subst e3
  refine ⟨D', d', by rw [hv.2], ⟨⟨s, ht.below hb⟩, h.rd.next hb, hbw, h.hS, rfl, h.sep⟩, hr, fun g o e => ?_, c1, c2⟩
  rcases hsp with rfl | ⟨g', e', hg'⟩
  · exact h.sep g o e
  · have hS := lt_of_block ht.row
    rw [e'] at e
    injection e with e
    injection e with e
    omega
/-- what the tree's Set leaves -/
def After2 (w : World) (b S n : Nat) (l' : List Int) (f : Int) (b1 o1 : Nat) (x y : Int) (k : Nat) (D' : Option Addr) (e : Ending) (w' : World) : Prop :=
  e = .returned (.int .i64 f) ∧ St w b S n D' w' l' ∧ w'.cell? ⟨b1, o1 + k * 2, none⟩ = some (.int .i64 x) ∧ w'.cell? ⟨b1, o1 + k * 2 + 1, none⟩ = some (.int .i64 y)
theorem after2_any {w : World} {b S n : Nat} {D D' : Option Addr} {wr : World} {l : List Int} (h : St w b S n D wr l) {C : Option Addr} {st : List (Int × Int)} (hst : RdS w w.heap.size C st) (k : Nat) (hk : k < st.length) (b1 o1 : Nat) (hC : C = some ⟨b1, o1, none⟩)
    {l' : List Int} {f : Int} (hs : SetTo l st[k].1 st[k].2 l' f) (hr : RdI wr wr.heap.size D' l') (hsp : ∀ g o, D' = some ⟨g, o, none⟩ → g ≠ S) :
    Calls Try.prog 23 #[.pointer (some ⟨b, 0, none⟩), .int .i64 st[k].1, .int .i64 st[k].2] wr (After2 w b S n l' f b1 o1 st[k].1 st[k].2 k D') := by
  obtain ⟨s, ht⟩ := h.tree
  have hv := hs.vd ht.vd
  refine (treeSet_any ht hs).mono ?_
  rintro e w' ⟨rfl, ht', hg⟩
  have hbw := h.below.grown hg h.below.size (by intro g e; injection e with e; have := h.hS; omega)
  obtain ⟨b2, o2, e2, _, c1, c2⟩ := hst.below hbw k hk
  rw [hC] at e2
  injection e2 with e2
  injection e2 with e2 e3
  subst e2; subst e3
  refine ⟨rfl, ⟨ht', fun j hj => ?_, hbw, h.hS, by rw [hv.2, h.len], hsp⟩, c1, c2⟩
  obtain ⟨g, o, e, hlt, hc⟩ := hr j hj
  have hgS := hsp g o e
  exact ⟨g, o, e, by have := hg.size; omega, (World.cell?_of_block (hg.block g hlt (fun e => hgS (by injection e)))).trans hc⟩

theorem append_src {P : Program} {w : World} {ops : Array Oper} {rest : List Oper} {o : Oper} {a : Act} {Q : Exit → Act → World → Prop} (hgd : o.guard = none) (s x : Operand) (t : TypeId)
    (ho : o.op = .call { callee := .builtin .append, args := #[s, x], argTypes := #[t, t] })
    (base : Nat) (e : TypeId) (i : TypeInfo) (z : Value) (bytes : Nat) (ht : P.underlying t = some (.slice e)) (hi : P.info? e = some i) (hz : i.zero = some z)
    (hsize : i.size = 1) (hby : i.bytes = bytes) (hzs : z.cells.size = 1)
    (v : Value) (hs : a.eval s = v) (hown : w.ownsRow base e 1 v 0 [])
    (A : Option Addr) (m c : Nat) (news : List Value) (hx : a.eval x = .slice A m c) (hl : news.length = m)
    (hsrc : (A = none ∧ m = 0 ∧ c = 0) ∨ ∃ ad, A = some ad ∧ ∀ j u, news[j]? = some u → w.cell? (ad.add j) = some u) (h1 : ∀ u ∈ news, u.oneCell' = true)
    (h63 : m ≤ maxLen) (hbytes : m * bytes ≤ 140737488355328) (hbase : base ≤ w.heap.size)
    (h : ∀ v' w', w'.ownsRow base e 1 v' m news → w.grownBy w' v.ownBlock → wpList P ops Q rest (a.put o.dst v') w') :
    wpList P ops Q (o :: rest) a w := by
  rcases hsrc with ⟨rfl, rfl, rfl⟩ | ⟨ad, rfl, hc⟩
  · have hn : news = [] := List.eq_nil_of_length_eq_zero hl
    subst hn
    exact wpList_append_own_none hgd s x t ho base e i 1 ht hi v 0 [] hs hown hx (h v w hown (only_refl w _))
  · refine wpList_append_own_at w hgd s x t ho base e i z 1 bytes ht hi hz hsize hby hzs (by omega) v 0 [] hs hown ad m c news hx (by omega) hc h1 (by omega) (by rw [Nat.zero_add]; exact hbytes) hbase ?_
    intro v' w' h2 h3 _ _
    exact h v' w' (by simpa using h2) h3
theorem RdI.src {w : World} {B : Nat} {ad : Addr} {zs : List Int} (h : RdI w B (some ad) zs) : ∀ j u, (iv zs)[j]? = some u → w.cell? (ad.add j) = some u := by
  intro j u hu
  obtain ⟨hj, rfl⟩ := List.getElem?_eq_some_iff.1 hu
  have hj' : j < zs.length := by simpa [iv] using hj
  obtain ⟨b', o', e, _, hc⟩ := h j hj'
  injection e with e
  subst e
  rw [add_plain, hc]
  simp [iv]

/-- the first j elements of a list of the call's own have been made one greater; nothing that was there in W has changed -/
structure BumpI (W : World) (g n j : Nat) (wr : World) : Prop where
  row : ∃ l : List Int, wr.heap[g]? = some (.cells (ints l) 2 (0, 0)) ∧ l.length = n ∧ ∀ i (h : i < l.length), j ≤ i → 0 ≤ l[i] ∧ l[i] ≤ 2305843009213693952
  below : Below W.heap.size W wr
  lo : W.heap.size ≤ g
theorem BumpI.at_ {W : World} {g n j : Nat} {wr : World} (h : BumpI W g n j wr) (hj : j < n) :
    ∃ v : Int, wr.cell? ⟨g, j, none⟩ = some (.int .i64 v) ∧ wr.frozen? ⟨g, j, none⟩ = false ∧ 0 ≤ v ∧ v ≤ 2305843009213693952 ∧ BumpI W g n (j + 1) (wr.setCell ⟨g, j, none⟩ (.int .i64 (v + 1))) := by
  obtain ⟨l, hrow, hlen, hb⟩ := h.row
  have hjl : j < l.length := by omega
  refine ⟨l[j], ?_, by simp [World.frozen?, hrow], (hb j hjl (Nat.le_refl _)).1, (hb j hjl (Nat.le_refl _)).2, ⟨l.set j (l[j] + 1), row_set hrow 0 j (l[j] + 1), by simpa using hlen, fun i hi hji => ?_⟩, h.below.setCell (p := ⟨g, j, none⟩) h.lo _, h.lo⟩
  · rw [cell_of_row wr g j (ints l) 2 (0, 0) hrow]
    simp [ints, hjl]
  · have hi' : i < l.length := by simpa using hi
    rw [List.getElem_set, if_neg (by omega)]
    exact hb i hi' (by omega)
set_option maxRecDepth 100000 in
set_option maxHeartbeats 8000000 in
theorem law4_ok (hL : LivesOk) (A C : Option Addr) (c d n m : Nat) (zs : List Int) (st : List (Int × Int)) (w : World) (hr : RdI w w.heap.size A zs) (hst : RdS w w.heap.size C st) (hA : A = none → c = 0) (hn : zs.length = n) (hm : st.length = m) (hl : n ≤ 40) (hl2 : m ≤ 40) (h0 : chk zs = 0) :
    Calls Try.prog 6 #[.slice A n c, .slice C m d] w fun e w' => e = .returned (.bool true) ∧ Below w.heap.size w w' := by
  have HL := Lib.hid hL; clear hL
  obtain ⟨i0, hi0, hz0, hz1, hz2⟩ := info_parts Try.info2
  have hv := chk_zero.1 h0
  have h10 : Hid (Calls Try.prog 10 #[.slice A n c] w fun e w' => e = .returned (.int .i64 0) ∧ w = w') := Lib.hid (by
    have := refCheck_any A c zs w hr (by omega)
    rwa [hn, h0] at this)
  have h11 : Hid (Calls Try.prog 11 #[.slice A n c] w (Made w zs)) := Lib.hid (by
    have := new_ok A c zs w hr hv
    rwa [hn] at this)
  have HR := Lib.hid hr
  have HV := Lib.hid hv
  have HST := Lib.hid hst
  have HN := Lib.hid hn
  have HM := Lib.hid hm
  have HA : Hid (∀ W, Below w.heap.size w W → (A = none ∧ n = 0 ∧ c = 0) ∨ ∃ ad, A = some ad ∧ ∀ j u, (iv zs)[j]? = some u → W.cell? (ad.add j) = some u) := Lib.hid fun W hb => by
    cases A with
    | none =>
      refine .inl ⟨rfl, ?_, hA rfl⟩
      rcases Nat.eq_zero_or_pos n with e | e
      · exact e
      · obtain ⟨_, _, e2, _⟩ := hr 0 (by omega)
        cases e2
    | some ad => exact .inr ⟨ad, rfl, (hr.below hb).src⟩
  have d40 : decide ((40 : Int) < (n : Int)) = false := by simp; omega
  have d41 : decide ((40 : Int) < (m : Int)) = false := by simp; omega
  clear hr hv h0 hst hn hm hA
  go_enter Try.func6, Try.ntmps6
  go_wp2_with fail
  refine h10.out.mono ?_
  rintro e w' ⟨rfl, rfl⟩
  go_wp2_with fail
  refine h11.out.mono ?_
  rintro e w1 ⟨b, S, s, rfl, hT, hb, hS, hB⟩
  have HT := Lib.hid hT
  have HB := Lib.hid hB
  have hb0 : Hid (Below w.heap.size w (w1.alloc (.cells #[] 2))) := Lib.hid (hB.alloc hB.size _)
  have hown0 : (w1.alloc (.cells #[] 2)).ownsRow w1.heap.size 2 1 (.slice (some ⟨w1.heap.size, 0, none⟩) 0 0) 0 [] := World.ownsRow_made w1 #[] 0 (Nat.le_refl _) (by simp [maxLen]) rfl
  have hT0 := Lib.hid (hT.below ((Below.refl _ w1).alloc (Nat.le_refl _) (.cells #[] 2)))
  have hSl : Hid (S < w1.heap.size ∧ w.heap.size ≤ S) := Lib.hid ⟨lt_of_block hT.row, hS⟩
  clear hT hB hb hS h10 h11
  go_wp2_with (
    at_builtin
    refine append_src rfl (.tmp 37) (.tmp 38) _ rfl w1.heap.size 2 i0 _ 8 Try.underlying22 hi0 hz0 hz1 hz2 rfl _ rfl hown0
      A n c (iv zs) rfl (by rw [iv_len]; exact HN.out) (HA.out _ hb0.out) (iv_one _) (by simp [maxLen]; omega) (by omega) (by simp) ?_
    intro v1 w2 hown1 hgrow)
  obtain ⟨D0, e0, rfl, hrd0⟩ := own_rd hown1 HN.out
  have H0 : Hid (St w b S n D0 w2 zs) := Lib.hid (by
    have hb2 : Below w1.heap.size (w1.alloc (.cells #[] 2)) w2 := (Below.refl _ _).grown hgrow (by simp) (fun j e => (hown0.lt j e).1)
    have hbb : Below w1.heap.size w1 w2 := ((Below.refl _ w1).alloc (Nat.le_refl _) (.cells #[] 2)).trans hb2
    refine ⟨⟨s, HT.out.below hbb⟩, hrd0, HB.out.trans (hbb.mono HB.out.size), hSl.out.2, HN.out, fun g o e => ?_⟩
    subst e
    have := (hown1.lt g rfl).1
    have := hSl.out.1
    omega)
  clear hown1 hrd0 hgrow hown0
  go_loopw [7, 8] (fun uw uk wr => ∃ (k : Nat) (D : Option Addr) (e : Nat) (l : List Int), uw = .slice D n e ∧ uk = .int .i64 k ∧ k ≤ m ∧ Hid (St w b S n D wr l)) (fun _ uk _ => m - (intOf uk).toNat)
  case atStart => exact ⟨0, D0, e0, zs, rfl, rfl, Nat.zero_le _, H0⟩
  case round =>
    clear hb0 hT0 HT HB H0
    obtain ⟨k, D, ec, l, rfl, rfl, hk, HS⟩ := hrel
    by_cases hlt : k < m
    · have hks : k < st.length := by rw [HM.out]; exact hlt
      obtain ⟨l', f, hs⟩ := setTo_ex l st[k].1 st[k].2
      obtain ⟨b1, o1, rfl, hbl, c1, c2⟩ := HST.out.below HS.out.below k hks
      have hf := hs.small
      have K1 : Hid (Calls Try.prog 22 #[.slice D n ec, .int .i64 st[k].1, .int .i64 st[k].2] wr.drew (After1 w b S n l l' f b1 o1 st[k].1 st[k].2 k D)) := Lib.hid (after1_any (HS.out.drewN 1) ec HST.out k hks b1 o1 rfl hs)
      have K2 : Hid (∀ W D', St w b S n D W l → RdI W W.heap.size D' l' → (∀ g o, D' = some ⟨g, o, none⟩ → g ≠ S) → Calls Try.prog 23 #[.pointer (some ⟨b, 0, none⟩), .int .i64 st[k].1, .int .i64 st[k].2] W (After2 w b S n l' f b1 o1 st[k].1 st[k].2 k D')) :=
        Lib.hid fun W D' h1 h2 h3 => after2_any h1 HST.out k hks b1 o1 rfl hs h2 h3
      clear hs
      generalize st[k].1 = x at *
      generalize st[k].2 = y at *
      clear hks
      have hk0 : (0 : Int) ≤ (k : Int) := by omega
      have hkm : (k : Int) < (m : Int) := by omega
      go_wp2_with fail
      go_region_held3 (fun W' => W'.cell? ⟨b1, o1 + k * 2, none⟩ = some (.int .i64 x) ∧ W'.cell? ⟨b1, o1 + k * 2 + 1, none⟩ = some (.int .i64 y))
        (first
          | exact ⟨c1, c2⟩
          | exact ⟨e1, e2⟩
          | go_keep)
        (first
          | (go_at_call 22; refine K1.out.mono ?_; rintro e w3 ⟨D', d', rfl, hst2, hr2, hsp2, e1, e2⟩))
      have K2' : Hid (Calls Try.prog 23 #[.pointer (some ⟨b, 0, none⟩), .int .i64 x, .int .i64 y] w3.drew (After2 w b S n l' f b1 o1 x y k D')) := Lib.hid (K2.out w3.drew D' (hst2.drewN 1) hr2 hsp2)
      clear hst2 hr2 hsp2 K1 K2 c1 c2
      go_wp2_with fail
      go_region_held3 (fun W' => W'.cell? ⟨b1, o1 + k * 2, none⟩ = some (.int .i64 x) ∧ W'.cell? ⟨b1, o1 + k * 2 + 1, none⟩ = some (.int .i64 y))
        (first
          | exact ⟨e1, e2⟩
          | exact ⟨g1, g2⟩
          | go_keep)
        (first
          | (go_at_call 23; refine K2'.out.mono ?_; rintro e w4 ⟨rfl, hst4, g1, g2⟩))
      have HS4 := Lib.hid hst4
      obtain ⟨s4, ht4⟩ := hst4.tree
      obtain ⟨q, hq, hqn⟩ : ∃ q : Nat, (k : Int) % ((n : Int) + 1) = (q : Int) ∧ q ≤ n := ⟨k % (n + 1), by simp [Int.natCast_emod], by have := Nat.mod_lt k (show n + 1 > 0 by omega); omega⟩
      have hln := hst4.len
      have k18 := Lib.hid (sum_tree ht4 q (by omega))
      have k15 : Hid (Calls Try.prog 15 #[.slice D' n d', .int .i64 q] w4 fun e w' => e = .returned (.int .i64 (pre l' q)) ∧ w4 = w') := Lib.hid (by
        have := refSum_any D' d' l' w4 hst4.rd ht4.vd q (by omega)
        rwa [hln] at this)
      have k15n : Hid (Calls Try.prog 15 #[.slice D' n d', .int .i64 n] w4 fun e w' => e = .returned (.int .i64 (pre l' n)) ∧ w4 = w') := Lib.hid (by
        have := refSum_any D' d' l' w4 hst4.rd ht4.vd n (by omega)
        rwa [hln] at this)
      have k14 : Hid (Calls Try.prog 14 #[.pointer (some ⟨b, 0, none⟩)] w4 fun e w' => e = .returned (.int .i64 (pre l' n)) ∧ w4 = w') := Lib.hid (by
        have := total_tree ht4
        rwa [hln] at this)
      clear hst4 ht4 e1 e2 g1 g2 K2' hln
      generalize pre l' q = u at *
      generalize pre l' n = t at *
      go_wp2_with fail
      refine k18.out.mono ?_
      rintro e w' ⟨rfl, rfl⟩
      go_wp2_with fail
      refine k15.out.mono ?_
      rintro e w' ⟨rfl, rfl⟩
      go_wp2_with fail
      refine k14.out.mono ?_
      rintro e w' ⟨rfl, rfl⟩
      go_wp2_with fail
      refine k15n.out.mono ?_
      rintro e w' ⟨rfl, rfl⟩
      go_wp2_with fail
      go_roundw
      case rel => exact ⟨k + 1, D', d', l', rfl, by go_num, by omega, HS4⟩
      case measure => simp [intOf]; omega
    · obtain rfl : k = m := by omega
      obtain ⟨s5, ht5⟩ := HS.out.tree
      have hln := HS.out.len
      have k17 := Lib.hid (list_tree ht5)
      have hn4 : n ≤ 40 := hl
      go_wp2_with fail
      refine k17.out.mono ?_
      rintro e w5 ⟨g, rfl, hg, hrow, hb5⟩
      have HR5 := Lib.hid (HS.out.rd.next hb5)
      have HB5 := Lib.hid (HS.out.below.trans (hb5.mono HS.out.below.size))
      have HT5 := Lib.hid (ht5.below hb5)
      have hb5' := hb5
      have k16 : Hid (Calls Try.prog 16 #[.slice (some ⟨g, 0, none⟩) n n, .slice D n ec] w5 fun e w' => e = .returned (.bool true) ∧ ∃ n, w' = w5.drewN n) := Lib.hid (by
        have := same_any (some ⟨g, 0, none⟩) D ec l w5 (RdI.row hrow) HR5.out (by omega)
        rwa [hln] at this)
      rw [hln]
      clear hb5 ht5
      go_wp2_with fail
      refine k16.out.mono ?_
      rintro e w' ⟨rfl, n6, rfl⟩
      have HG0 : Hid (BumpI wr g n 0 (w5.drewN n6)) := Lib.hid ⟨⟨l, hrow, hln, fun j hj _ => (HT5.out.vd.each j hj)⟩, below_drewN hb5' n6, hg⟩
      have HW := Lib.hid HS.out
      have HSB := Lib.hid HS.out.below
      clear hrow hg hb5' HS HT5 HR5 HB5 k17 k16
      go_wp2_with fail
      go_loopw [15] (fun uk wx => ∃ j : Nat, uk = .int .i64 j ∧ j ≤ n ∧ Hid (BumpI wr g n j wx)) (fun uk _ => n - (intOf uk).toNat)
      case atStart => exact ⟨0, rfl, Nat.zero_le _, HG0⟩
      case round =>
        clear HG0
        obtain ⟨j, rfl, hj, HJ⟩ := hrel
        by_cases hjl : j < n
        · obtain ⟨v, hc, hf, hv0, hv1, hnx⟩ := HJ.out.at_ hjl
          have HNX := Lib.hid hnx
          clear hnx
          go_wp2_with fail
          go_roundw
          case rel => exact ⟨j + 1, by go_num, by omega, HNX⟩
          case measure => simp [intOf]; omega
        · have hbi := HJ.out.below
          obtain ⟨s6, ht6⟩ := HW.out.tree
          have ht7 := ht6.below hbi
          have HR7 := Lib.hid (HW.out.rd.next hbi)
          have HB7 := Lib.hid (HSB.out.trans (hbi.mono HSB.out.size))
          have k17 := Lib.hid (list_tree ht7)
          have hjn : j = n := by omega
          subst hjn
          clear ht6 ht7 hbi
          go_wp2_with fail
          refine k17.out.mono ?_
          rintro e w8 ⟨g2, rfl, hg2, hrow2, hb8⟩
          have HB8 := Lib.hid (HB7.out.trans (hb8.mono HB7.out.size))
          have k16 : Hid (Calls Try.prog 16 #[.slice (some ⟨g2, 0, none⟩) j j, .slice D j ec] w8 fun e w' => e = .returned (.bool true) ∧ ∃ n, w' = w8.drewN n) := Lib.hid (by
            have := same_any (some ⟨g2, 0, none⟩) D ec l w8 (RdI.row hrow2) (HR7.out.next hb8) (by omega)
            rwa [hln] at this)
          rw [hln]
          clear hb8 hrow2 hg2
          go_wp2_with fail
          refine k16.out.mono ?_
          rintro e w' ⟨rfl, n9, rfl⟩
          go_wp2_with fail
          refine (HL.out _).mono ?_
          rintro e w10 ⟨rfl, hb10⟩
          have HB10 := Lib.hid (HB8.out.trans ((show Below w8.heap.size w8 w10 from ⟨hb10.os, hb10.tape, hb10.output, hb10.size, hb10.block⟩).mono HB8.out.size))
          clear hb10
          go_wp2_with fail
          go_ret
          exact ⟨rfl, HB10.out⟩
theorem law4_any (hL : LivesOk) (A C : Option Addr) (c d : Nat) (zs : List Int) (st : List (Int × Int)) (w : World) (hr : RdI w w.heap.size A zs) (hst : RdS w w.heap.size C st) (hA : A = none → c = 0) (hl : zs.length ≤ 9223372036854775807) (hl2 : st.length ≤ 9223372036854775807) :
    Calls Try.prog 6 #[.slice A zs.length c, .slice C st.length d] w fun e w' => e = .returned (.bool true) ∧ Below w.heap.size w w' := by
  rcases Nat.lt_or_ge 40 zs.length with h | h
  · exact law4_long hL A C c d st.length zs w (.inl h) hl hl2
  · rcases Nat.lt_or_ge 40 st.length with h2 | h2
    · exact law4_long hL A C c d st.length zs w (.inr ⟨h, h2⟩) hl hl2
    · by_cases h0 : chk zs = 0
      · exact law4_ok hL A C c d zs.length st.length zs st w hr hst hA rfl rfl h h2 h0
      · exact law4_bad hL A C c d st.length zs w hr h h2 h0
end Go.Proofs.Ythdohijhioocgaa
