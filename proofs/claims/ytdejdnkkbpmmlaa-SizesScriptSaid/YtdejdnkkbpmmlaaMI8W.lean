/- The walk of I's Rows: rows as plain data. -/
import Derived.Test.YtdejdnkkbpmmlaaMMvW
import Derived.Maps.AppendAt
import Derived.Laws.AppendOwnNone
namespace Go.Proofs.Ytdejdnkkbpmmlaa
open Go.RowKit

/-- a slice of rows that is read -/
def RdR (W : World) (B : Nat) (A : Option Addr) (r : List (Int × Bool)) : Prop :=
  ∀ k (h : k < r.length), ∃ b o, A = some ⟨b, o, none⟩ ∧ b < B ∧ W.cell? ⟨b, o + k * 2, none⟩ = some (.int .i64 r[k].1) ∧ W.cell? ⟨b, o + k * 2 + 1, none⟩ = some (.bool r[k].2)
theorem RdR.nil {W : World} {B : Nat} {A : Option Addr} : RdR W B A [] := fun k h => absurd h (by simp)
theorem RdR.below {W W' : World} {B : Nat} {A : Option Addr} {r : List (Int × Bool)} (h : RdR W B A r) (hb : Below B W W') : RdR W' B A r := fun k hk => by
  obtain ⟨b, o, e, h0, h1, h2⟩ := h k hk
  exact ⟨b, o, e, h0, (hb.cell (p := ⟨b, _, none⟩) h0).trans h1, (hb.cell (p := ⟨b, _, none⟩) h0).trans h2⟩
theorem RdR.more {W : World} {B B' : Nat} {A : Option Addr} {r : List (Int × Bool)} (h : RdR W B A r) (hB : B ≤ B') : RdR W B' A r := fun k hk => by
  obtain ⟨b, o, e, h0, h1⟩ := h k hk
  exact ⟨b, o, e, Nat.lt_of_lt_of_le h0 hB, h1⟩
theorem RdR.next {W W' : World} {A : Option Addr} {r : List (Int × Bool)} (h : RdR W W.heap.size A r) (kk : Below W.heap.size W W') : RdR W' W'.heap.size A r := (h.below kk).more kk.size
theorem sz_get {r : List (Int × Bool)} {k : Nat} (h : k < r.length) : (sz r)[k]'(by rw [sz_len]; exact h) = r[k].1 := by simp [sz]
set_option maxRecDepth 100000 in
set_option maxHeartbeats 2000000 in
theorem rtop_any (A : Option Addr) (c : Nat) (r : List (Int × Bool)) (w : World) (hr : RdR w w.heap.size A r) (hv : Vd (sz r)) (i : Nat) (hi : i ≤ r.length) :
    Calls Try.prog 12 #[.slice A r.length c, .int .i64 i] w fun e w' => e = .returned (.int .i64 (pre (sz r) i)) ∧ w = w' := by
  have hrl : r.length ≤ 4096 := by have := hv.len; rwa [sz_len] at this
  have HR := Lib.hid hr
  have HV := Lib.hid hv
  clear hr hv
  go_enter Try.func12, Try.ntmps12
  go_wp2_with fail
  go_loop [5, 6] (fun s k => ∃ j : Nat, j ≤ i ∧ k = .int .i64 j ∧ s = .int .i64 (pre (sz r) j)) (fun _ k => i - (intOf k).toNat)
  case atStart => exact ⟨0, Nat.zero_le _, rfl, by rw [pre_zero]⟩
  case round =>
    obtain ⟨j, hj, rfl, rfl⟩ := hrel
    by_cases hlt : j < i
    · have hjr : j < r.length := by omega
      obtain ⟨b, o, rfl, hb, c0, c1⟩ := HR.out j hjr
      have hs : pre (sz r) (j + 1) = pre (sz r) j + r[j].1 := by rw [pre_succ (show j < (sz r).length by rw [sz_len]; exact hjr), sz_get hjr]
      have h1 := HV.out.lo j
      have h2 := HV.out.hi j
      have h3 := HV.out.lo (j + 1)
      have h4 := HV.out.hi (j + 1)
      obtain ⟨v, hvv⟩ : ∃ v, r[j].1 = v := ⟨_, rfl⟩
      rw [hvv] at c0 hs
      obtain ⟨q, hq⟩ : ∃ q, pre (sz r) j = q := ⟨_, rfl⟩
      rw [hq] at h1 h2 hs ⊢
      rw [hs] at h3 h4
      have HS := Lib.hid hs
      have a1 : IntKind.i64.wrap (q + v) = q + v := IntWalk.i64_in _ (by omega)
      clear hs hvv hq
      go_wp2_with fail
      go_round
      case rel => exact ⟨j + 1, by omega, by go_num, by rw [HS.out]⟩
      case measure => simp [intOf]; omega
    · obtain rfl : j = i := by omega
      go_wp2_with fail
      go_ret
      exact ⟨rfl, rfl⟩
theorem pre_full (r : List (Int × Bool)) : pre (sz r) r.length = (sz r).sum := by unfold pre; rw [List.take_of_length_le (by rw [sz_len]; exact Nat.le_refl _)]
theorem total_below (c x d : Int) (p : Option Addr) (w : World) : Calls Try.prog 28 #[.agg #[.int .i64 c, .int .i64 x, .int .i64 d, .pointer p]] w fun e w' => e = .returned (.int .i64 x) ∧ Below w.heap.size w w' :=
  (total_any c x d p w).mono fun _ _ ⟨he, hw⟩ => ⟨he, hw ▸ below_new w _⟩
set_option maxRecDepth 100000 in
set_option maxHeartbeats 1000000 in
theorem new_any (w : World) : Calls Try.prog 29 #[] w fun e w' => e = .returned (.agg #[.int .i64 0, .int .i64 0, .int .i64 0, .pointer none, .slice none 0 0]) ∧ Below w.heap.size w w' := by
  have hb := below_new w (.cells #[.int .i64 0, .int .i64 0, .int .i64 0, .pointer none, .slice none 0 0] 32)
  have hh := heap_alloc_new w (.cells #[.int .i64 0, .int .i64 0, .int .i64 0, .pointer none, .slice none 0 0] 32)
  have HB := Lib.hid hb
  have HH := Lib.hid hh
  clear hb hh
  go_enter Try.func29, Try.ntmps29
  go_wp2_with fail
  exact bodyPost_ret (res_ix (t := 0) rfl (g := w.heap.size) rfl HH.out) rfl ⟨rfl, HB.out⟩
set_option maxRecDepth 100000 in
set_option maxHeartbeats 8000000 in
theorem same_any {w : World} {r : List (Int × Bool)} {t : T} {p A B : Option Addr} {c d : Nat} {xs : List S.Sp} (h : Ix w r t p A c xs) (hR : RdR w w.heap.size B r) (f : Int) :
    Calls Try.prog 10 #[.agg #[.int .i64 t.count, .int .i64 t.total, .int .i64 t.depth, .pointer p, .slice A xs.length c], .int .i64 f, .slice B r.length d, .int .i64 f] w fun e w' => e = .returned (.bool true) ∧ Below w.heap.size w w' := by
  have hrl := h.vr.len
  have HSZ := Lib.hid (show ∀ W, Below w.heap.size w W → ∀ (k : Nat) (hk : k < r.length), Calls Try.prog 14 #[.agg #[.int .i64 r.length, .int .i64 (sz r).sum, .int .i64 t.depth, .pointer p, .slice A xs.length c], .int .i64 k] W fun e w' => e = .returned (.tuple #[.int .i64 r[k].1, .int .i64 0]) ∧ Below W.heap.size W w' from fun W kk k hk => by
    have := size_any (h.next kk) (k : Int) (by omega)
    rw [show sizeR r (k : Int) = (r[k].1, 0) from by
      unfold sizeR
      rw [if_neg (by omega)]
      have hk' : k < (sz r).length := by rw [sz_len]; exact hk
      rw [Int.toNat_natCast, List.getD, List.getElem?_eq_getElem hk', ← sz_get hk]; rfl, h.cnt, h.tot] at this
    exact this)
  have HKN := Lib.hid (show ∀ W, Below w.heap.size w W → ∀ (k : Nat) (hk : k < r.length), Calls Try.prog 15 #[.agg #[.int .i64 r.length, .int .i64 (sz r).sum, .int .i64 t.depth, .pointer p, .slice A xs.length c], .int .i64 k] W fun e w' => e = .returned (.tuple #[.bool r[k].2, .int .i64 0]) ∧ Below W.heap.size W w' from fun W kk k hk => by
    have := known_any (h.next kk) (k : Int) (by omega)
    rw [show knownR r (k : Int) = (r[k].2, 0) from by
      unfold knownR
      rw [if_neg (by omega), kn_in hk], h.cnt, h.tot] at this
    exact this)
  have HL := Lib.hid (len_below r.length (sz r).sum t.depth p)
  have HT := Lib.hid (total_below r.length (sz r).sum t.depth p)
  have HTOP := Lib.hid (show ∀ W, Below w.heap.size w W → Calls Try.prog 12 #[.slice B r.length d, .int .i64 r.length] W fun e w' => e = .returned (.int .i64 (sz r).sum) ∧ W = w' from fun W kk => by
    have := rtop_any B d r W ((hR.below kk).more kk.size) h.vr.vd r.length (Nat.le_refl _)
    rwa [pre_full] at this)
  have HRR := Lib.hid hR
  rw [h.cnt, h.tot]
  have hb := below_new w (.cells #[.int .i64 r.length, .int .i64 (sz r).sum, .int .i64 t.depth, .pointer p, .slice A xs.length c] 32)
  have hq := heap_alloc_new w (.cells #[.int .i64 r.length, .int .i64 (sz r).sum, .int .i64 t.depth, .pointer p, .slice A xs.length c] 32)
  obtain ⟨x0, x1, x2, x3, x4⟩ := box5 hq
  have HB := Lib.hid hb
  have HQ := Lib.hid hq
  clear h hR hb hq
  generalize (sz r).sum = tot at *
  go_enter Try.func10, Try.ntmps10
  go_wp2_with fail
  refine (HL.out _).mono ?_
  rintro e w1 ⟨rfl, kk⟩
  have HB1 := Lib.hid (HB.out.trans (kk.mono HB.out.size))
  have HQ1 := Lib.hid (keep_heap kk HQ.out)
  clear kk HB HQ HL x0 x1 x2 x3 x4
  obtain ⟨x0, x1, x2, x3, x4⟩ := box5 HQ1.out
  go_wp2_with fail
  refine (HT.out _).mono ?_
  rintro e w2 ⟨rfl, kk⟩
  have HB2 := Lib.hid (HB1.out.trans (kk.mono HB1.out.size))
  have HQ2 := Lib.hid (keep_heap kk HQ1.out)
  clear kk HB1 HQ1 HT x0 x1 x2 x3 x4
  go_wp2_with fail
  refine (HTOP.out _ HB2.out).mono ?_
  rintro e w3 ⟨rfl, hw3⟩
  rw [hw3] at HB2 HQ2
  clear hw3 HTOP
  go_wp2_with fail
  go_loopw [9, 10, 11, 12, 13] (fun k _ _ _ _ wr => ∃ j : Nat, j ≤ r.length ∧ k = .int .i64 j ∧ Hid (Below w.heap.size w wr) ∧ Hid (wr.heap[w.heap.size]? = some (.cells #[.int .i64 r.length, .int .i64 tot, .int .i64 t.depth, .pointer p, .slice A xs.length c] 32 (0, 0)))) (fun k _ _ _ _ _ => r.length - (intOf k).toNat)
  case atStart => exact ⟨0, Nat.zero_le _, rfl, HB2, HQ2⟩
  case round =>
    obtain ⟨j, hj, rfl, UB, UQ⟩ := hrel
    by_cases hlt : j < r.length
    · obtain ⟨x0, x1, x2, x3, x4⟩ := box5 UQ.out
      have hs := HSZ.out wr UB.out j hlt
      have HKJ := Lib.hid (fun W kk => HKN.out W kk j hlt)
      obtain ⟨bb, o, rfl, hbb, c0, c1⟩ := HRR.out j hlt
      obtain ⟨⟨z, b⟩, hzb⟩ : ∃ x, r[j] = x := ⟨_, rfl⟩
      rw [hzb] at hs c0 c1 HKJ
      simp only at hs c0 c1 HKJ
      have HS := Lib.hid hs
      have C0 := Lib.hid c0
      have C1 := Lib.hid c1
      clear hs c0 c1 hzb
      go_wp2_with fail
      refine HS.out.mono ?_
      rintro e w4 ⟨rfl, kk⟩
      have U4 := Lib.hid (UB.out.trans (kk.mono UB.out.size))
      have UQ4 := Lib.hid (keep_heap kk UQ.out)
      clear kk HS UB UQ x0 x1 x2 x3 x4
      obtain ⟨x0, x1, x2, x3, x4⟩ := box5 UQ4.out
      go_wp2_with fail
      refine (HKJ.out w4 U4.out).mono ?_
      rintro e w5 ⟨rfl, kk⟩
      have U5 := Lib.hid (U4.out.trans (kk.mono U4.out.size))
      have UQ5 := Lib.hid (keep_heap kk UQ4.out)
      have c0 := (U5.out.cell (p := ⟨bb, _, none⟩) hbb).trans C0.out
      have c1 := (U5.out.cell (p := ⟨bb, _, none⟩) hbb).trans C1.out
      clear kk HKJ U4 UQ4 x0 x1 x2 x3 x4 C0 C1
      go_wp2_with fail
      go_roundw
      case rel => exact ⟨j + 1, by omega, by go_num, U5, UQ5⟩
      case measure => simp [intOf]; omega
    · go_wp2_with fail
      go_ret
      exact ⟨rfl, UB.out⟩
end Go.Proofs.Ytdejdnkkbpmmlaa

namespace Go.Proofs.Ytdejdnkkbpmmlaa
open Go.RowKit

theorem Try.info42 : (Try.prog.info? 42).map (fun i => (i.zero, i.size, i.bytes)) = some (some (.agg #[.int .i64 0, .bool false]), 2, 16) := by kernel_rfl
/-- rows as cells -/
def rv (r : List (Int × Bool)) : List Value := r.flatMap fun s => [.int .i64 s.1, .bool s.2]
theorem rv_len (r : List (Int × Bool)) : (rv r).length = r.length * 2 := by
  induction r with
  | nil => rfl
  | cons s r ih => simp [rv] at ih ⊢; omega
theorem rv_app (a b : List (Int × Bool)) : rv (a ++ b) = rv a ++ rv b := by simp [rv]
theorem rv_one (r : List (Int × Bool)) : ∀ u ∈ rv r, u.oneCell' = true := by
  intro u hu
  simp only [rv, List.mem_flatMap, List.mem_cons, List.not_mem_nil, or_false] at hu
  obtain ⟨s, _, rfl | rfl⟩ := hu <;> rfl
theorem rv_get (r : List (Int × Bool)) (k : Nat) (h : k < r.length) : (rv r)[k * 2]? = some (.int .i64 r[k].1) ∧ (rv r)[k * 2 + 1]? = some (.bool r[k].2) := by
  induction r generalizing k with
  | nil => simp at h
  | cons s r ih =>
    have e0 : rv (s :: r) = .int .i64 s.1 :: .bool s.2 :: rv r := rfl
    cases k with
    | zero => simp [e0]
    | succ k =>
      have h' : k < r.length := by simpa using h
      have e : (k + 1) * 2 = k * 2 + 1 + 1 := by omega
      rw [e0, e, List.getElem?_cons_succ, List.getElem?_cons_succ, List.getElem?_cons_succ, List.getElem?_cons_succ]
      simpa using ih k h'
/-- the slice value v is nil, or a row of the call's own, and holds the rows r -/
def OwnR (w : World) (base : Nat) (v : Value) (r : List (Int × Bool)) : Prop := w.ownsRow base 42 2 v r.length (rv r)
/-- a slice of rows: the cells, and no room in a nil one -/
structure SlR (w : World) (A : Option Addr) (c : Nat) (r : List (Int × Bool)) : Prop where
  rd : RdR w w.heap.size A r
  le : r.length ≤ c
  max : c ≤ 9223372036854775807
  nil : A = none → c = 0
theorem SlR.below {w w' : World} {A : Option Addr} {c : Nat} {r : List (Int × Bool)} (h : SlR w A c r) (hb : Below w.heap.size w w') : SlR w' A c r := ⟨h.rd.next hb, h.le, h.max, h.nil⟩
theorem SlR.none (w : World) : SlR w none 0 [] := ⟨RdR.nil, Nat.le_refl _, by omega, fun _ => rfl⟩
theorem add_plain (b off i : Nat) : (⟨b, off, none⟩ : Addr).add i = ⟨b, off + i, none⟩ := by
  unfold Addr.add
  split <;> simp_all
theorem OwnR.sl {w : World} {base : Nat} {v : Value} {r : List (Int × Bool)} (h : OwnR w base v r) : ∃ A c, v = .slice A r.length c ∧ SlR w A c r ∧ ∀ a, A = some a → base ≤ a.block := by
  have h0 := h
  rcases h.2 with ⟨hv, hn0⟩ | ⟨g, cap, cur, hv, hb, hg, hnc, hcm, hcs, ht⟩
  · have : r = [] := List.eq_nil_of_length_eq_zero hn0
    subst this
    exact ⟨none, 0, hv, SlR.none w, fun _ h => by cases h⟩
  · refine ⟨some ⟨g, 0, none⟩, cap, hv, ⟨fun k hk => ⟨g, 0, rfl, heap_lt hg, ?_, ?_⟩, hnc, by unfold maxLen at hcm; omega, fun h => by cases h⟩, fun a ha => by cases ha; exact hb⟩
    · have := World.ownsRow.cells (g := g) h0 (by rw [hv]; rfl) (k * 2) _ (rv_get r k hk).1
      rwa [add_plain] at this
    · have := World.ownsRow.cells (g := g) h0 (by rw [hv]; rfl) (k * 2 + 1) _ (rv_get r k hk).2
      rwa [add_plain] at this
theorem SlR.news {w : World} {ad : Addr} {c : Nat} {r : List (Int × Bool)} (h : SlR w (some ad) c r) : ∀ j u, (rv r)[j]? = some u → w.cell? (ad.add j) = some u := by
  intro j u hu
  obtain ⟨hj, _⟩ := List.getElem?_eq_some_iff.1 hu
  rw [rv_len] at hj
  have hk : j / 2 < r.length := by omega
  obtain ⟨b, o, e, _, c0, c1⟩ := h.rd (j / 2) hk
  injection e with e
  subst e
  obtain ⟨g0, g1⟩ := rv_get r (j / 2) hk
  rw [add_plain]
  rcases Nat.mod_two_eq_zero_or_one j with h2 | h2
  · have ej : j / 2 * 2 = j := by omega
    rw [ej] at c0 g0
    rw [c0]; rw [g0] at hu; exact hu
  · have ej : j / 2 * 2 + 1 = j := by omega
    rw [Nat.add_assoc, ej] at c1
    rw [ej] at g1
    rw [c1]; rw [g1] at hu; exact hu
theorem run_appR {w : World} (ty : TypeId) {base : Nat} {v : Value} {l : List (Int × Bool)} (hown : OwnR w base v l) {A : Option Addr} {c : Nat} {ms : List (Int × Bool)} (hs : SlR w A c ms)
    (hlen : l.length + ms.length ≤ 1000000) (hbase : base ≤ w.heap.size) :
    ∃ v' w', (Builtin.append_ #[25, 25] ty #[v, .slice A ms.length c]).run Try.prog w = .ok v' w' ∧ OwnR w' base v' (l ++ ms) ∧ Below base w w' ∧ w.grownBy w' v.ownBlock := by
  obtain ⟨i0, hi0, hz0, hz1, hz2⟩ := info_parts Try.info42
  have hown' : w.ownsRow base 42 2 v l.length (rv l) := hown
  cases hA : A with
  | none =>
    have hc := hs.nil hA
    have hle := hs.le
    obtain rfl : ms = [] := List.eq_nil_of_length_eq_zero (by omega)
    subst hc
    have hrun := run_append_owned_none (P := Try.prog) (w := w) base 25 ty 42 i0 2 Try.underlying25 hi0 v _ _ hown'
    exact ⟨v, w, hrun, by rw [List.append_nil]; exact hown, Below.refl _ _, World.grownBy.refl _ _⟩
  | some ad =>
    subst hA
    obtain ⟨v', w', h1, h2, h3, _, _⟩ := run_append_own_at (P := Try.prog) w base 25 ty 42 i0 (.agg #[.int .i64 0, .bool false]) 2 16 Try.underlying25 hi0 hz0 hz1 hz2 rfl (by omega) v _ _ hown' ad ms.length c (rv ms) (rv_len ms) hs.news (rv_one _)
      (by simp [maxLen]; omega) (by omega) hbase
    exact ⟨v', w', h1, by unfold OwnR; rw [rv_app, List.length_append]; exact h2, (Below.refl _ _).grown h3 hbase (fun j e => (hown'.lt j e).1), h3⟩
/-- append, for the walk -/
theorem wp_appR {w : World} {ops : Array Oper} {rest : List Oper} {o : Oper} {a : Act} {Q : Exit → Act → World → Prop} (hgd : o.guard = none) (s x : Operand) (ho : o.op = .call { callee := .builtin .append, args := #[s, x], argTypes := #[25, 25] })
    (base : Nat) (v : Value) (l : List (Int × Bool)) (hs : a.eval s = v) (A : Option Addr) (c : Nat) (ms : List (Int × Bool)) (n : Nat) (hx : a.eval x = .slice A n c) (hn : n = ms.length) (hown : OwnR w base v l) (hsrc : SlR w A c ms) (hlen : l.length + ms.length ≤ 1000000) (hbase : base ≤ w.heap.size)
    (h : ∀ v' w', Hid (OwnR w' base v' (l ++ ms)) → Hid (Below base w w') → wpList Try.prog ops Q rest (a.put o.dst v') w') : wpList Try.prog ops Q (o :: rest) a w := by
  subst hn
  refine wpList_plain hgd fun K hK => ?_
  obtain ⟨v', w', hr, h2, h3, _⟩ := run_appR o.type hown hsrc hlen hbase
  unfold Oper.wp execOp
  simp only [ho, resolve, invoke, builtin, Sem.run_bind, Sem.run_pure, Result.andThen_ok, List.map_toArray, List.map_cons, List.map_nil, hs, hx, hr]
  exact hK _ _ (h v' w' (Lib.hid h2) (Lib.hid h3))
/-- append, for a region that draws -/
theorem step_appR {w : World} {ops : Array Oper} {o : Oper} {a : Act} {K : Act → World → Prop} {Q : Exit → Act → World → Prop} {E : Prop} (hgd : o.guard = none) (s x : Operand) (ho : o.op = .call { callee := .builtin .append, args := #[s, x], argTypes := #[25, 25] })
    (base : Nat) (v : Value) (l : List (Int × Bool)) (hs : a.eval s = v) (A : Option Addr) (c : Nat) (ms : List (Int × Bool)) (n : Nat) (hx : a.eval x = .slice A n c) (hn : n = ms.length) (hown : OwnR w base v l) (hsrc : SlR w A c ms) (hlen : l.length + ms.length ≤ 1000000) (hbase : base ≤ w.heap.size)
    (h : ∀ v' w', Hid (OwnR w' base v' (l ++ ms)) → Hid (Below base w w') → K (a.put o.dst v') w') :
    if Region.wanted o (yielded ops a.tmps) = true then Oper.wp Try.prog o a w K Q else E := by
  subst hn
  have hw : Region.wanted o (yielded ops a.tmps) = true := by simp [Region.wanted, hgd]
  rw [if_pos hw]
  obtain ⟨v', w', hr, h2, h3, _⟩ := run_appR o.type hown hsrc hlen hbase
  unfold Oper.wp execOp
  simp only [ho, resolve, invoke, builtin, Sem.run_bind, Sem.run_pure, Result.andThen_ok, List.map_toArray, List.map_cons, List.map_nil, hs, hx, hr]
  exact h v' w' (Lib.hid h2) (Lib.hid h3)
theorem slr_one (W : World) (x : Int) (b : Bool) : SlR (W.alloc (.cells #[.int .i64 x, .bool b] 42)) (some ⟨W.heap.size, 0, none⟩) 1 [(x, b)] :=
  ⟨fun k hk => by
    obtain rfl : k = 0 := by simpa using hk
    have h := heap_alloc_new W (.cells #[.int .i64 x, .bool b] 42)
    exact ⟨W.heap.size, 0, rfl, heap_lt h, cell_of_row _ _ 0 _ 42 (0, 0) h, cell_of_row _ _ 1 _ 42 (0, 0) h⟩, Nat.le_refl _, by omega, fun h => by cases h⟩
end Go.Proofs.Ytdejdnkkbpmmlaa

namespace Go.Proofs.Ytdejdnkkbpmmlaa
open Go.RowKit

/-- bytes that are read -/
def RdU (w : World) (B : Nat) (A : Option Addr) (us : List Nat) : Prop :=
  ∀ k (h : k < us.length), ∃ b o, A = some ⟨b, o, none⟩ ∧ b < B ∧ w.cell? ⟨b, o + k, none⟩ = some (.int .u8 (us[k] : Nat)) ∧ us[k] ≤ 255
theorem RdU.below {w w' : World} {B : Nat} {A : Option Addr} {us : List Nat} (h : RdU w B A us) (hb : Below B w w') : RdU w' B A us := fun k hl => by
  obtain ⟨b, o, e, hl2, h1, h2⟩ := h k hl
  exact ⟨b, o, e, hl2, (hb.cell (p := ⟨b, o + k, none⟩) hl2).trans h1, h2⟩
def row1 (u : Nat) : Int × Bool := (1 + ((u % 16 : Nat) : Int), decide (127 < u))
/-- the rows of an I -/
def ro (us : List Nat) : List (Int × Bool) := (us.take 60).map row1
def great (r : List (Int × Bool)) : List (Int × Bool) := match r with
  | [] => []
  | x :: r => (2305843009213693952, x.2) :: r
def rof (us : List Nat) (g : Bool) : List (Int × Bool) := if g = true then great (ro us) else ro us
theorem ro_len (us : List Nat) : (ro us).length ≤ 60 := by simp [ro]; omega
theorem great_len (r : List (Int × Bool)) : (great r).length = r.length := by cases r <;> rfl
theorem rof_len (us : List Nat) (g : Bool) : (rof us g).length = (ro us).length := by unfold rof; split; exact great_len _; rfl
theorem ro_small (us : List Nat) : ∀ x ∈ sz (ro us), 1 ≤ x ∧ x ≤ 16 := by
  intro x hx
  simp only [sz, ro, List.map_map, List.mem_map] at hx
  obtain ⟨u, _, rfl⟩ := hx
  show 1 ≤ 1 + ((u % 16 : Nat) : Int) ∧ 1 + ((u % 16 : Nat) : Int) ≤ 16
  omega
theorem sum_16 {l : List Int} (h : ∀ x ∈ l, 1 ≤ x ∧ x ≤ 16) : 0 ≤ l.sum ∧ l.sum ≤ 16 * l.length := by
  induction l with
  | nil => simp
  | cons a r ih =>
    have h1 := h a (by simp)
    have h2 := ih fun x hx => h x (by simp [hx])
    simp only [List.sum_cons, List.length_cons]
    omega
theorem rof_vr (us : List Nat) (g : Bool) : Vr (rof us g) := by
  have h1 := ro_len us
  have h2 := ro_small us
  have h3 := sum_16 h2
  rw [sz_len] at h3
  have hs : ∀ r : List (Int × Bool), (∀ x ∈ sz r, 1 ≤ x ∧ x ≤ 2305843009213693952) → (sz r).sum ≤ 4611686018427387904 → r.length ≤ 60 → Vr r := fun r a b c =>
    ⟨vd_of ⟨fun x hx => by have := a x hx; omega, b, by rw [sz_len]; omega⟩ fun x hx => (a x hx).2, by omega, fun x hx => (a x hx).1⟩
  unfold rof
  split
  · refine hs _ ?_ ?_ (by rw [great_len]; exact h1)
    · cases hc : ro us with
      | nil => intro x hx; simp [great, sz] at hx
      | cons y r =>
        intro x hx
        rw [hc] at h2
        simp only [great, sz, List.map_cons, List.mem_cons] at hx
        rcases hx with rfl | hx
        · omega
        · have := h2 x (by simp only [sz, List.map_cons, List.mem_cons]; exact .inr hx); omega
    · cases hc : ro us with
      | nil => simp [great, sz]
      | cons y r =>
        rw [hc] at h2 h1
        have h4 := sum_16 (l := sz r) (fun x hx => h2 x (by simp only [sz, List.map_cons, List.mem_cons]; exact .inr hx))
        rw [sz_len] at h4
        simp only [List.length_cons] at h1
        show 2305843009213693952 + (sz r).sum ≤ _
        omega
  · exact hs _ (fun x hx => by have := h2 x hx; omega) (by omega) h1
theorem ro_succ {us : List Nat} {k : Nat} (h : k < us.length) : (us.take (k + 1)).map row1 = (us.take k).map row1 ++ [row1 us[k]] := by
  rw [List.take_succ_eq_append_getElem h, List.map_append]
  rfl
/-- what Rows hands back -/
def Row8 (w : World) (r : List (Int × Bool)) (e : Ending) (w' : World) : Prop := ∃ A c, e = .returned (.slice A r.length c) ∧ SlR w' A c r ∧ Below w.heap.size w w'
/-- ahead of each round -/
structure RoI (w wr : World) (A : Option Addr) (us : List Nat) (c : Nat) (g : Bool) (n : Nat) (v : Value) : Prop where
  own : OwnR wr (w.heap.size + 1) v ((us.take n).map row1)
  u : Below (w.heap.size + 1) (w.alloc (.cells #[.slice A us.length c, .bool g] 24)) wr
theorem RoI.box {w wr : World} {A : Option Addr} {us : List Nat} {c : Nat} {g : Bool} {n : Nat} {v : Value} (h : RoI w wr A us c g n v) : wr.cell? ⟨w.heap.size, 0, none⟩ = some (.slice A us.length c) ∧ wr.cell? ⟨w.heap.size, 1, none⟩ = some (.bool g) := by
  have hh := (h.u.block w.heap.size (by omega)).trans (heap_alloc_new w _)
  exact ⟨cell_of_row wr w.heap.size 0 _ 24 (0, 0) hh, cell_of_row wr w.heap.size 1 _ 24 (0, 0) hh⟩
theorem great_get (r : List (Int × Bool)) (k : Nat) (hk : k < r.length) : ((great r)[k]'(by rw [great_len]; exact hk)).2 = r[k].2 ∧ (0 < k → ((great r)[k]'(by rw [great_len]; exact hk)).1 = r[k].1) ∧ (k = 0 → ((great r)[k]'(by rw [great_len]; exact hk)).1 = 2305843009213693952) := by
  cases r with
  | nil => simp at hk
  | cons x r =>
    cases k with
    | zero => exact ⟨rfl, fun h => by omega, fun _ => rfl⟩
    | succ j => exact ⟨rfl, fun _ => rfl, fun h => by omega⟩
theorem row8_set {w wr : World} {us : List Nat} {n cap B : Nat} {z : Int} (hl : (ro us).length = n) (hs : SlR wr (some ⟨B, 0, none⟩) cap (ro us)) (hb : Below w.heap.size w wr) (hB : w.heap.size ≤ B) (h0 : wr.cell? ⟨B, 0, none⟩ = some (.int .i64 z)) :
    Row8 w (rof us true) (.returned (.slice (some ⟨B, 0, none⟩) n cap)) (wr.setCell ⟨B, 0, none⟩ (.int .i64 2305843009213693952)) := by
  have hx : rof us true = great (ro us) := by unfold rof; rw [if_pos rfl]
  rw [hx]
  refine ⟨_, cap, by rw [great_len, hl], ⟨fun k hk => ?_, by rw [great_len]; exact hs.le, hs.max, fun h => by cases h⟩, hb.setCell hB _⟩
  rw [great_len] at hk
  obtain ⟨b, o, e, hb2, h1, h2⟩ := hs.rd k hk
  injection e with e
  injection e with e1 e2
  subst e1; subst e2
  have hgt := great_get (ro us) k hk
  refine ⟨B, 0, rfl, by simpa [World.setCell] using hb2, ?_, ?_⟩
  · rcases Nat.eq_zero_or_pos k with h3 | h3
    · subst h3
      show (wr.setCell ⟨B, 0, none⟩ _).cell? ⟨B, 0, none⟩ = _
      rw [World.cell?_setCell_same _ _ _ h0, hgt.2.2 rfl]
    · rw [World.cell?_setCell_other _ _ _ _ (by intro e; injection e with _ e; omega), h1, hgt.2.1 h3]
  · rw [World.cell?_setCell_other _ _ _ _ (by intro e; injection e with _ e; omega), h2, hgt.1]
set_option maxRecDepth 100000 in
set_option maxHeartbeats 8000000 in
theorem rows_loop (A : Option Addr) (c : Nat) (us : List Nat) (g : Bool) (w : World) (hr : RdU w w.heap.size A us) (_hl : us.length ≤ c) (_hm : c ≤ 9223372036854775807) :
    Calls Try.prog 8 #[.agg #[.slice A us.length c, .bool g]] w (Row8 w (rof us g)) := by
  have HR := Lib.hid hr
  have H0 : Hid (RoI w (w.alloc (.cells #[.slice A us.length c, .bool g] 24)) A us c g 0 (.slice none 0 0)) := Lib.hid ⟨⟨by simp [rv], .inl ⟨rfl, rfl⟩⟩, Below.refl _ _⟩
  have HB0 := Lib.hid ((Below.refl w.heap.size w).alloc (Nat.le_refl _) (.cells #[.slice A us.length c, .bool g] 24))
  clear hr
  go_enter Try.func8, Try.ntmps8
  go_wp2_with fail
  go_loopw [3, 4] (fun v k wr => ∃ n : Nat, n ≤ us.length ∧ n ≤ 60 ∧ k = .int .i64 n ∧ Hid (RoI w wr A us c g n v)) (fun _ k _ => us.length - (intOf k).toNat)
  case atStart => exact ⟨0, Nat.zero_le _, Nat.zero_le _, rfl, H0⟩
  case round =>
    obtain ⟨n, hn, hn2, rfl, HI⟩ := hrel
    obtain ⟨x0, x1⟩ := HI.out.box
    by_cases hlt : n < us.length ∧ n < 60
    · obtain ⟨hlt, hlt2⟩ := hlt
      have hrb : RdU wr w.heap.size A us := (HR.out.below HB0.out).below (HI.out.u.mono (by omega))
      obtain ⟨b, o, rfl, hb, hc, hu⟩ := hrb n hlt
      have HS := Lib.hid (ro_succ hlt)
      have hsz : w.heap.size + 1 ≤ wr.heap.size := by have := HI.out.u.size; simpa using this
      have hown := HI.out.own
      have hub := HI.out.u
      clear HI hrb
      generalize us[n] = u at *
      have hq : ((u : Int) % 16) = ((u % 16 : Nat) : Int) := by omega
      have hq2 : u % 16 ≤ 15 := by omega
      obtain ⟨kb, hkb⟩ : ∃ kb, decide ((127 : Int) < (u : Int)) = kb := ⟨_, rfl⟩
      have hkb2 : row1 u = (1 + ((u % 16 : Nat) : Int), kb) := by rw [← hkb]; unfold row1; congr 1; rw [decide_eq_decide]; omega
      rw [hkb2] at HS
      obtain ⟨q, hqq⟩ : ∃ q : Nat, u % 16 = q := ⟨_, rfl⟩
      rw [hqq] at HS hq hq2
      have hz : IntKind.i64.wrap (1 + IntKind.i64.wrap ((u : Int).tmod 16)) = 1 + (q : Int) := by
        have e1 : (u : Int).tmod 16 = (q : Int) := by rw [Int.tmod_eq_emod_of_nonneg (by omega)]; exact hq
        rw [e1, IntWalk.i64_in (q : Int) (by omega), IntWalk.i64_in _ (by omega)]
      have HZ := Lib.hid hz
      clear hkb2 hqq hq hz
      obtain ⟨L, hL⟩ : ∃ L, (us.take n).map row1 = L := ⟨_, rfl⟩
      have hLl : L.length = n := by rw [← hL, List.length_map, List.length_take]; omega
      rw [hL] at HS hown
      have HOW := Lib.hid (show OwnR ((wr.alloc (.cells #[.int .i64 (IntKind.i64.wrap (1 + IntKind.i64.wrap ((u : Int).tmod 16))), .bool kb] 42)).drew) (w.heap.size + 1) u3 L from World.ownsRow.alloc hown _)
      have HSL := Lib.hid (show SlR ((wr.alloc (.cells #[.int .i64 (IntKind.i64.wrap (1 + IntKind.i64.wrap ((u : Int).tmod 16))), .bool kb] 42)).drew) (some ⟨wr.heap.size, 0, none⟩) 1 [((IntKind.i64.wrap (1 + IntKind.i64.wrap ((u : Int).tmod 16))), kb)] from (slr_one wr (IntKind.i64.wrap (1 + IntKind.i64.wrap ((u : Int).tmod 16))) kb).below ⟨rfl, rfl, rfl, Nat.le_refl _, fun _ _ => rfl⟩)
      have HUB := Lib.hid ((hub.alloc (by simpa using hsz) (.cells #[.int .i64 (IntKind.i64.wrap (1 + IntKind.i64.wrap ((u : Int).tmod 16))), .bool kb] 42)).drew)
      clear hown hub hL
      go_upto_region 5 with fail
      go_region_law (refine step_appR rfl (.tmp 16) (.tmp 32) rfl (w.heap.size + 1) _ L rfl (some ⟨wr.heap.size, 0, none⟩) 1 [((IntKind.i64.wrap (1 + IntKind.i64.wrap ((u : Int).tmod 16))), kb)] 1 rfl rfl HOW.out HSL.out (by simp; omega) (by simp; omega) ?_; intro v1 w1 H1 B1)
      all_goals (
        have HN1 := Lib.hid (show RoI w w1 (some ⟨b, o, none⟩) us c g (n + 1) v1 from ⟨by rw [HS.out, ← HZ.out]; exact H1.out, HUB.out.trans B1.out⟩)
        clear H1 B1 HOW HSL HUB HS
        go_wp2_with fail
        go_roundw
        case rel => exact ⟨n + 1, by omega, by omega, by go_num, HN1⟩
        case measure => simp [intOf]; omega)
    · have ht : (us.take n).map row1 = ro us := by
        unfold ro
        have e : us.take n = us.take 60 := by rw [List.take_eq_take_iff]; omega
        rw [e]
      have hown := HI.out.own
      have hub := HI.out.u
      rw [ht] at hown
      have hub2 : Below w.heap.size w wr := HB0.out.trans ((hub.mono (Nat.le_succ _)).mono (by simp))
      have hxl : (ro us).length = n := by have := congrArg List.length ht; simp at this; omega
      have hn0 : ¬ (n < us.length ∧ n < 60) := hlt
      clear HI ht hub
      rcases hown.2 with ⟨rfl, h0⟩ | ⟨B, cap, cur, rfl, hB, hH, hnc, hcm, hcs, htk⟩
      · have hx0 : rof us g = [] := by
          have : ro us = [] := List.eq_nil_of_length_eq_zero h0
          unfold rof; rw [this]; simp [great]
        have HX0 := Lib.hid hx0
        have HB2 := Lib.hid hub2
        obtain rfl : n = 0 := by omega
        have hu0 : us.length = 0 := by rcases Nat.eq_zero_or_pos us.length with h | h; exact h; exact absurd ⟨h, by omega⟩ hn0
        have e0 : decide (0 < us.length) = false := decide_eq_false (by omega)
        clear hx0 hub2 hown hn0 hlt hxl hu0 hn h0
        cases g
        all_goals
          go_wp2_with fail
          go_ret
          exact ⟨none, 0, by rw [HX0.out]; rfl, by rw [HX0.out]; exact SlR.none _, HB2.out⟩
      · rw [hxl] at hnc ⊢
        obtain ⟨A1, c1, hv1, hsl, _⟩ := hown.sl
        rw [hxl] at hv1
        injection hv1 with e1 _ e2
        subst e1; subst e2
        have HSL := Lib.hid hsl
        have HB2 := Lib.hid hub2
        have HXL := Lib.hid hxl
        have hBw : w.heap.size ≤ B := by omega
        have HW := Lib.hid hn0
        have HD := Lib.hid (show n < us.length → 60 ≤ n from fun h => by rcases Nat.lt_or_ge n 60 with h2 | h2; exact absurd ⟨h, h2⟩ hn0; exact h2)
        by_cases hg : g = true ∧ 0 < n
        · obtain ⟨rfl, hp⟩ := hg
          obtain ⟨b, o, e, _, hc0, _⟩ := hsl.rd 0 (by omega)
          injection e with e
          injection e with e1 e2
          subst e1; subst e2
          have hf0 : wr.frozen? ⟨B, 0, none⟩ = false := by simp [World.frozen?, hH]
          have HC := Lib.hid hc0
          have hc0' : wr.cell? ⟨B, 0, none⟩ = some (.int .i64 (ro us)[0].1) := by simpa using hc0
          obtain ⟨z, hz⟩ : ∃ z, (ro us)[0].1 = z := ⟨_, rfl⟩
          rw [hz] at hc0'
          clear hub2 hown hlt hcs htk hcm hH hz hn0
          rcases Nat.lt_or_ge n us.length with h1 | h1
          · have h2 : 60 ≤ n := HD.out h1
            go_wp2_with fail
            go_ret
            exact row8_set HXL.out HSL.out HB2.out hBw (show wr.cell? ⟨B, 0, none⟩ = some (.int .i64 z) by assumption)
          · go_wp2_with fail
            go_ret
            exact row8_set HXL.out HSL.out HB2.out hBw (show wr.cell? ⟨B, 0, none⟩ = some (.int .i64 z) by assumption)
        · have HXX : Hid (rof us g = ro us) := Lib.hid (by
            unfold rof
            split
            · rename_i h
              have hn1 : n = 0 := by rcases Nat.eq_zero_or_pos n with h2 | h2; exact h2; exact absurd ⟨h, h2⟩ hg
              rw [List.eq_nil_of_length_eq_zero (hxl.trans hn1)]; rfl
            · rfl)
          clear hub2 hown hlt hcs htk hcm hH hn0
          have hfin : ∀ W, W = wr → Row8 w (rof us g) (.returned (.slice (some ⟨B, 0, none⟩) n cap)) W := fun W e => by
            subst e
            rw [HXX.out]
            exact ⟨some ⟨B, 0, none⟩, cap, by rw [HXL.out], HSL.out, HB2.out⟩
          have HFIN := Lib.hid hfin
          clear hfin
          cases g
          · clear hg
            rcases Nat.lt_or_ge n us.length with h1 | h1
            · have h2 : 60 ≤ n := HD.out h1
              go_wp2_with fail
              go_ret
              exact HFIN.out _ rfl
            · go_wp2_with fail
              go_ret
              exact HFIN.out _ rfl
          · have hg2 : ¬ 0 < n := fun h => hg ⟨rfl, h⟩
            obtain rfl : n = 0 := by omega
            have h1 : us.length ≤ 0 := by rcases Nat.eq_zero_or_pos us.length with h | h; omega; exact absurd (HD.out h) (by omega)
            have e0 : decide (0 < us.length) = false := decide_eq_false (by omega)
            clear hg hg2
            go_wp2_with fail
            go_ret
            exact HFIN.out _ rfl
end Go.Proofs.Ytdejdnkkbpmmlaa
