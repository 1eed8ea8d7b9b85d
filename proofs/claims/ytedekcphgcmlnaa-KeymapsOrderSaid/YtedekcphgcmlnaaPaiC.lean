/- The list's Put. -/
import Derived.Test.YtedekcphgcmlnaaPaiB
namespace Go.Proofs.Ytedekcphgcmlnaa
open Go.RowKit

theorem below_alloc (w : World) (o : Obj) : Below w.heap.size w (w.alloc o) := (Below.refl _ _).alloc (Nat.le_refl _) o
theorem ownR_next {w w' : World} {base : Nat} {v : Value} {l : PL} (h : OwnR w base v l) (hb : Below w.heap.size w w') : OwnR w' base v l := by
  refine ⟨h.1, ?_⟩
  rcases h.2 with h2 | ⟨g, cap, cur, hv, hg, hgr, r⟩
  · exact .inl h2
  · exact .inr ⟨g, cap, cur, hv, hg, (hb.block g (heap_lt hgr)).trans hgr, r⟩
set_option maxRecDepth 100000 in
set_option maxHeartbeats 4000000 in
theorem refPut_zero {w : World} {A : Option Addr} {c : Nat} {L : PL} (h : SlR w A c L) (v : Int) :
    Calls Try.prog 13 #[.slice A L.length c, .int .u64 0, .int .i64 v] w (RowP A L (.int .i64 9) w) := by
  have HS := Lib.hid h
  clear h
  go_enter Try.func13, Try.ntmps13
  go_wp2_with fail
  go_ret2
  exact ⟨A, c, rfl, HS.out, Below.refl _ _, .inl rfl⟩
set_option maxRecDepth 100000 in
set_option maxHeartbeats 4000000 in
theorem refPut_lim {w : World} {A : Option Addr} {c : Nat} {L : PL} (h : SlR w A c L) (k v : Int) (hk0 : k ≠ 0) (hl : L.length = 4096) (hk : hasK L k = false) :
    Calls Try.prog 13 #[.slice A L.length c, .int .u64 k, .int .i64 v] w (RowP A L (.int .i64 3) w) := by
  have h1 := refAt_any c h.rd k (by omega)
  unfold AtP at h1
  rw [hk] at h1
  have H1 := Lib.hid h1
  have HS := Lib.hid h
  have hk' : (k = 0) = False := by simp [hk0]
  have hge : (4096 : Int) ≤ (L.length : Int) := by omega
  clear h1 h hk hl
  go_enter Try.func13, Try.ntmps13
  go_wp2_with fail
  refine H1.out.mono ?_
  rintro e w1 ⟨rfl, m, rfl⟩
  go_wp2_with fail
  go_ret2
  exact ⟨A, c, rfl, HS.out.drewN m, below_drewN w m, .inl rfl⟩
set_option maxRecDepth 100000 in
set_option maxHeartbeats 8000000 in
theorem refPut_ok {w : World} {A : Option Addr} {c : Nat} {L : PL} (h : SlR w A c L) (k v : Int) (hk0 : k ≠ 0) (hl : L.length ≤ 4096) (f : Bool) (hk : hasK L k = f) (hf : f = false → L.length < 4096) :
    Calls Try.prog 13 #[.slice A L.length c, .int .u64 k, .int .i64 v] w (RowP A (L.take (atI L k) ++ (k, v) :: L.drop (atI L k + if f then 1 else 0)) (.int .i64 0) w) := by
  have hle' := atI_le L k
  have hat : f = true → atI L k < L.length := fun e => (has_mem (hk.trans e)).2.1
  have h1 := refAt_any c h.rd k hl
  unfold AtP at h1
  rw [hk] at h1
  obtain ⟨i, hi⟩ : ∃ i, atI L k = i := ⟨_, rfl⟩
  rw [hi] at h1 hat hle' ⊢
  obtain ⟨q, hq⟩ : ∃ q, i + (if f then 1 else 0) = q := ⟨_, rfl⟩
  rw [hq]
  have hql : q ≤ L.length := by
    cases f with
    | true => have := hat rfl; simp at hq; omega
    | false => simp at hq; omega
  have H1 := Lib.hid h1
  have HS := Lib.hid h
  have hle := h.le
  have hmx := h.max
  have hk' : (k = 0) = False := by simp [hk0]
  clear h1 h hk hi hat
  have hti : (L.take i).length = i := by rw [List.length_take]; omega
  have hdl : (L.drop q).length = L.length - q := List.length_drop
  have z1 : (i : Int) ≤ (c : Int) := by omega
  have z3 : (q : Int) ≤ (L.length : Int) := by omega
  have z4 : (q : Int) ≤ (c : Int) := by omega
  obtain ⟨A2, hA2⟩ : ∃ A2, (if c = q then A else A.map fun x => x.add (q * 2)) = A2 := ⟨_, rfl⟩
  cases f with
  | true =>
    have hqi : (i : Int) + 1 = (q : Int) := by simp at hq; omega
    have HQ := Lib.hid hq
    clear hq hf
    go_enter Try.func13, Try.ntmps13
    go_wp2_with fail
    refine H1.out.mono ?_
    rintro e w0 ⟨rfl, m, hw0⟩
    have hb0 : Below w.heap.size w w0 := by rw [hw0]; exact below_drewN w m
    have hsl := HS.out.below hb0
    have hsz := hb0.size
    have HB0 := Lib.hid hb0
    clear hw0 hb0 H1
    have HO : Hid (OwnR (w0.alloc (.cells #[] 41)) w0.heap.size (.slice (some ⟨w0.heap.size, 0, none⟩) 0 0) []) := Lib.hid (madeR0 w0)
    have HB : Hid (Below w0.heap.size w0 (w0.alloc (.cells #[] 41))) := Lib.hid ((Below.refl w0.heap.size w0).alloc (Nat.le_refl _) _)
    have HS0 := Lib.hid ((hsl.below HB.out).head i)
    have HP : Hid (∀ w', Below w0.heap.size w0 w' → SlR w' A2 (c - q) (L.drop q)) := Lib.hid (fun w' hb => by
      have := (hsl.below hb).rest q (by omega)
      rw [hA2] at this
      exact this)
    clear hsl
    go_wp2_with (
      at_builtin
      first
        | (refine wp_appR rfl (.tmp 28) (.tmp 31) rfl w0.heap.size _ [] rfl A c (L.take i) i rfl hti.symm HO.out HS0.out (by simp; omega) HB.out.size ?_
           intro v1 w1 H1 B1
           have H1' : Hid (OwnR w1 w0.heap.size v1 (L.take i)) := Lib.hid (by have := H1.out; rwa [List.nil_append] at this)
           have BB := Lib.hid (HB.out.trans B1.out)
           have S1 := Lib.hid (slr_one w1 k v)
           have HU := Lib.hid (below_alloc w1 (.cells #[.int .u64 k, .int .i64 v] 41))
           have H2 := Lib.hid (ownR_next H1'.out HU.out)
           clear H1 B1)
        | (refine wp_appR rfl (.tmp 33) (.tmp 37) rfl w0.heap.size v1 (L.take i) rfl (some ⟨w1.heap.size, 0, none⟩) 1 [(k, v)] 1 rfl rfl H2.out S1.out (by simp; omega) (Nat.le_trans BB.out.size HU.out.size) ?_
           intro v2 w2 H3 B2
           have B3 := Lib.hid ((BB.out.trans (HU.out.mono BB.out.size)).trans B2.out))
        | (refine wp_appR rfl (.tmp 42) (.tmp 45) rfl w0.heap.size v2 (L.take i ++ [(k, v)]) rfl A2 (c - q) (L.drop q) (L.length - q) rfl hdl.symm H3.out (HP.out _ B3.out) (by rw [hdl]; simp; omega) B3.out.size ?_
           intro v3 w3 H4 B4))
    go_ret2
    exact rowP_own (by have := H4.out.le hsz; rwa [List.append_assoc] at this) (HB0.out.trans ((B3.out.trans B4.out).mono hsz))
  | false =>
    have hqi : i = q := by simpa using hq
    subst hqi
    have hl2 := hf rfl
    have hl3 : ¬ ((4096 : Int) ≤ (L.length : Int)) := by omega
    clear hq hf
    go_enter Try.func13, Try.ntmps13
    go_wp2_with fail
    refine H1.out.mono ?_
    rintro e w0 ⟨rfl, m, hw0⟩
    have hb0 : Below w.heap.size w w0 := by rw [hw0]; exact below_drewN w m
    have hsl := HS.out.below hb0
    have hsz := hb0.size
    have HB0 := Lib.hid hb0
    clear hw0 hb0 H1
    have HO : Hid (OwnR (w0.alloc (.cells #[] 41)) w0.heap.size (.slice (some ⟨w0.heap.size, 0, none⟩) 0 0) []) := Lib.hid (madeR0 w0)
    have HB : Hid (Below w0.heap.size w0 (w0.alloc (.cells #[] 41))) := Lib.hid ((Below.refl w0.heap.size w0).alloc (Nat.le_refl _) _)
    have HS0 := Lib.hid ((hsl.below HB.out).head i)
    have HP : Hid (∀ w', Below w0.heap.size w0 w' → SlR w' A2 (c - i) (L.drop i)) := Lib.hid (fun w' hb => by
      have := (hsl.below hb).rest i (by omega)
      rw [hA2] at this
      exact this)
    clear hsl
    go_wp2_with (
      at_builtin
      first
        | (refine wp_appR rfl (.tmp 28) (.tmp 31) rfl w0.heap.size _ [] rfl A c (L.take i) i rfl hti.symm HO.out HS0.out (by simp; omega) HB.out.size ?_
           intro v1 w1 H1 B1
           have H1' : Hid (OwnR w1 w0.heap.size v1 (L.take i)) := Lib.hid (by have := H1.out; rwa [List.nil_append] at this)
           have BB := Lib.hid (HB.out.trans B1.out)
           have S1 := Lib.hid (slr_one w1 k v)
           have HU := Lib.hid (below_alloc w1 (.cells #[.int .u64 k, .int .i64 v] 41))
           have H2 := Lib.hid (ownR_next H1'.out HU.out)
           clear H1 B1)
        | (refine wp_appR rfl (.tmp 33) (.tmp 37) rfl w0.heap.size v1 (L.take i) rfl (some ⟨w1.heap.size, 0, none⟩) 1 [(k, v)] 1 rfl rfl H2.out S1.out (by simp; omega) (Nat.le_trans BB.out.size HU.out.size) ?_
           intro v2 w2 H3 B2
           have B3 := Lib.hid ((BB.out.trans (HU.out.mono BB.out.size)).trans B2.out))
        | (refine wp_appR rfl (.tmp 42) (.tmp 45) rfl w0.heap.size v2 (L.take i ++ [(k, v)]) rfl A2 (c - i) (L.drop i) (L.length - i) rfl hdl.symm H3.out (HP.out _ B3.out) (by rw [hdl]; simp; omega) B3.out.size ?_
           intro v3 w3 H4 B4))
    go_ret2
    exact rowP_own (by have := H4.out.le hsz; rwa [List.append_assoc] at this) (HB0.out.trans ((B3.out.trans B4.out).mono hsz))
theorem refPut_any {w : World} {A : Option Addr} {c : Nat} {L : PL} (h : SlR w A c L) (k v : Int) (hl : L.length ≤ 4096) :
    Calls Try.prog 13 #[.slice A L.length c, .int .u64 k, .int .i64 v] w (RowP A (putL L k v).1 (.int .i64 (putL L k v).2) w) := by
  by_cases hk : k = 0
  · subst hk
    rw [put_zero]
    exact refPut_zero h v
  cases hh : hasK L k with
  | true =>
    have := refPut_ok h k v hk hl true hh (fun h => by cases h)
    unfold putL
    rw [if_neg hk, hh, if_neg (by simp)]
    exact this
  | false =>
    by_cases hf : L.length = 4096
    · rw [put_full hk v hh hf]
      exact refPut_lim h k v hk hf hh
    · have := refPut_ok h k v hk hl false hh (fun _ => by omega)
      unfold putL
      rw [if_neg hk, hh, if_neg (by omega)]
      exact this
end Go.Proofs.Ytedekcphgcmlnaa
