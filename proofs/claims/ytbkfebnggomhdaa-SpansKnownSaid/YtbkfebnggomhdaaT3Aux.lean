/- What the tail of the law SpansSets leans on. -/
import Derived.Test.YtbkfebnggomhdaaThree
namespace Go.Proofs.Ytbkfebnggomhdaa
open Go.RowKit
theorem ofm_ex (ms : List Bool) (hl : ms.length ≤ 1000) : ∀ k, k ≤ ms.length → ∃ out, OfM ms k out
  | 0, _ => ⟨[], OfM.start ms⟩
  | k + 1, hk => by
    obtain ⟨out, h⟩ := ofm_ex ms hl k (by omega)
    cases hm : mkd ms k with
    | false => exact ⟨out, h.skip hm⟩
    | true =>
      by_cases hk0 : k = 0
      · exact ⟨_, h.new hm (.inl hk0) (by omega)⟩
      · cases hp : mkd ms ((k : Int) - 1) with
        | false => exact ⟨_, h.new hm (.inr hp) (by omega)⟩
        | true =>
          obtain ⟨_, p, _, h'⟩ := h.grow hm (by omega) hp (by omega)
          exact ⟨_, h'⟩
theorem mkset_ex (ms : List Bool) (hl : ms.length ≤ 1000) : ∃ L, MkSet ms L := by
  obtain ⟨out, h⟩ := ofm_ex ms hl ms.length (Nat.le_refl _)
  exact ⟨out, h.done (Nat.le_refl _)⟩
theorem refSp {ms : List Bool} {L : List Sp} (hm : MkSet ms L) (hl : ms.length ≤ 1000) {W : World} {A : Option Addr} {c n : Nat} (h : RdB W W.heap.size A ms) (hn : ms.length = n) :
    Calls Try.prog 23 #[.slice A n c] W fun e w' => ∃ B d, e = .returned (.slice B L.length d) ∧ L.length ≤ d ∧ Rd w' w'.heap.size B L ∧ Below W.heap.size W w' := by
  subst hn
  refine (refSpans_any A c ms W h (by omega)).mono ?_
  rintro e w' ⟨v, L', rfl, hm', ho, hb⟩
  obtain rfl : L' = L := val_ext hm'.1 hm.1 (fun i => (hm'.2 i).trans (hm.2 i).symm)
  obtain ⟨B, d, rfl, hd, hr⟩ := ho.rd
  exact ⟨B, d, rfl, hd, hr, hb⟩
theorem pairsAt {W : World} {A : Option Addr} {n c : Nat} (xs : List Sp) (h : Rd W W.heap.size A xs) (hn : xs.length = n) (hl : xs.length ≤ 1000000) :
    Calls Try.prog 11 #[.slice A n c] W fun e w' => ∃ B d, e = .returned (.slice B n d) ∧ n ≤ d ∧ Rd w' w'.heap.size B xs ∧ Below W.heap.size W w' := by
  subst hn
  refine (pairs_any A c xs W h (by omega)).mono ?_
  rintro e w' ⟨v, rfl, ho, hb⟩
  obtain ⟨B, d, rfl, hd, hr⟩ := ho.rd
  exact ⟨B, d, rfl, hd, hr, hb⟩
theorem sameAt {W : World} {E D : Option Addr} {n d : Nat} (xs : List Sp) (h : Rd W W.heap.size E xs) (h' : Rd W W.heap.size D xs) (hn : xs.length = n) (hl : xs.length ≤ 1000000) :
    Calls Try.prog 17 #[.slice E n n, .int .i64 0, .slice D n d, .int .i64 0] W fun e w' => e = .returned (.bool true) ∧ Below W.heap.size W w' := by
  subst hn
  refine (same_any E _ xs 0 D d xs 0 W h h' (by omega) (by omega) (by omega)).mono ?_
  rintro e w' ⟨rfl, hb⟩
  exact ⟨ret_bool (sameB_t rfl rfl rfl), hb⟩
theorem cnt_union {xs ys u c : List Sp} (hx : Val (-1) xs) (hy : Val (-1) ys) (hu : Val (-1) u) (hc : Val (-1) c) (lx : xs.length ≤ 4096) (ly : ys.length ≤ 4096) (lu : u.length ≤ 4096) (lc : c.length ≤ 4096)
    (h1 : ∀ i, hasB u i = (hasB xs i || hasB ys i)) (h2 : ∀ i, hasB c i = (hasB xs i && hasB ys i)) : cnt u = cnt xs + cnt ys - cnt c := by
  rw [cnt_cnt hx lx, cnt_cnt hy ly, cnt_cnt hu lu, cnt_cnt hc lc]
  have h := cntN_or (hasB xs) (hasB ys) 1073741824
  have e1 : cntN (hasB u) 1073741824 = cntN (fun i => hasB xs i || hasB ys i) 1073741824 := cntN_congr (fun i _ _ => h1 i)
  have e2 : cntN (hasB c) 1073741824 = cntN (fun i => hasB xs i && hasB ys i) 1073741824 := cntN_congr (fun i _ _ => h2 i)
  rw [e1, e2]
  omega
theorem sum_bd0' {l : Int} {xs : List Sp} (hv : Val l xs) : 0 ≤ sumB 0 xs ∧ sumB 0 xs ≤ max 0 (1073741824 - l) := by
  induction xs generalizing l with
  | nil => show (0 : Int) ≤ 0 ∧ (0 : Int) ≤ _; omega
  | cons s r ih =>
    obtain ⟨h1, h2, h3, h4⟩ := hv
    have := ih h4
    rw [sumB_cons]; omega
theorem cnt_bd {xs : List Sp} (hv : Val (-1) xs) (hl : xs.length ≤ 4096) : 0 ≤ cnt xs ∧ cnt xs ≤ 1073741825 := by
  rw [cnt_ok (chk_of_val hv hl)]
  have := sum_bd0' hv
  omega
/-- all that the tail needs of the sets -/
structure Sets3 (L1 L2 Lu Lc Lw : List Sp) : Prop where
  v1 : Val (-1) L1
  v2 : Val (-1) L2
  vu : Val (-1) Lu
  vc : Val (-1) Lc
  vw : Val (-1) Lw
  hu : ∀ i, hasB Lu i = (hasB L1 i || hasB L2 i)
  hc : ∀ i, hasB Lc i = (hasB L1 i && hasB L2 i)
  hw : ∀ i, hasB Lw i = (hasB L1 i && !hasB L2 i)
theorem chk2_0 {xs ys : List Sp} (hx : Val (-1) xs) (hy : Val (-1) ys) (lx : xs.length ≤ 4096) (ly : ys.length ≤ 4096) : chk2 xs ys = 0 := by
  unfold chk2; rw [if_pos (chk_of_val hx lx)]; exact chk_of_val hy ly
end Go.Proofs.Ytbkfebnggomhdaa
