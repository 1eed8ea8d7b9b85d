/- The search for a key. -/
import Derived.Test.YtedekcphgcmlnaaMulW
import Derived.Test.YtedekcphgcmlnaaGotoW
import Derived.Deep.CutBlock
namespace Go.Proofs.Ytedekcphgcmlnaa
open Go.RowKit

theorem slots_obj {w : World} {b : Nat} {A : Option Addr} {n c : Nat} {kk tt : Int} (h : Obj3 w b A n c kk tt) : Calls Try.prog 23 #[.pointer (some ⟨b, 0, none⟩)] w fun e w' => e = .returned (.int .i64 n) ∧ w' = w := by
  have c0 := h.c0
  clear h
  go_enter Try.func23, Try.ntmps23
  go_wp2
  go_ret
  exact ⟨rfl, rfl⟩
theorem find_nil (w : World) (k : Int) : Calls Try.prog 26 #[.pointer none, .int .u64 k] w fun e w' => e = .returned (.tuple #[.int .i64 0, .bool false]) ∧ w' = w := by
  have h1 := Lib.hid (slots_nil w)
  go_enter Try.func26, Try.ntmps26
  go_wp2_with fail
  refine @wp_scope_goto _ _ _ _ _ ?r 0 ?hf (fun _ _ _ => False) (fun J _ => ?_) (fun _ _ _ h => h.elim)
  case hf => rfl
  go_wp2_with fail
  refine h1.out.mono ?_
  rintro e w1 ⟨rfl, rfl⟩
  go_wp2_with fail
  rw [goes_ret]
  go_ret2
  exact ⟨rfl, rfl⟩
theorem find_none {w : World} {b c : Nat} {A : Option Addr} {kk tt : Int} (h : Obj3 w b A 0 c kk tt) (k : Int) : Calls Try.prog 26 #[.pointer (some ⟨b, 0, none⟩), .int .u64 k] w fun e w' => e = .returned (.tuple #[.int .i64 0, .bool false]) ∧ w' = w := by
  have h1 := Lib.hid (slots_obj h)
  clear h
  go_enter Try.func26, Try.ntmps26
  go_wp2_with fail
  refine @wp_scope_goto _ _ _ _ _ ?r 0 ?hf (fun _ _ _ => False) (fun J _ => ?_) (fun _ _ _ h => h.elim)
  case hf => rfl
  go_wp2_with fail
  refine h1.out.mono ?_
  rintro e w1 ⟨rfl, rfl⟩
  go_wp2_with fail
  rw [goes_ret]
  go_ret2
  exact ⟨rfl, rfl⟩
/-- what a search gives -/
def Finds (S : List Sl) (k : Int) (w : World) (e : Ending) (w' : World) : Prop :=
  ∃ (i : Nat) (f : Bool), e = .returned (.tuple #[.int .i64 i, .bool f]) ∧ ((f = true ∧ Hit S k i) ∨ (f = false ∧ Miss S k i)) ∧ Below w.heap.size w w'
/-- the tomb that was seen first -/
def Grave (S : List Sl) (k : Int) (j : Nat) (g : Int) : Prop := g = -1 ∨ ∃ d, d < j ∧ g = (pos k S.length d : Nat) ∧ S[pos k S.length d]? = some .tomb
theorem mask_step (k : Int) {n q j : Nat} (hn : n = 2 ^ q) (hq : q ≤ 20) : bits BinOp.and IntKind.i64 ((pos k n j : Int) + 1) ((n : Int) - 1) = ((pos k n (j + 1) : Nat) : Int) := by
  have hpos : 0 < n := by rw [hn]; exact Nat.two_pow_pos q
  have hlt := pos_lt k j hpos
  have hn2 : n ≤ 2 ^ 20 := by rw [hn]; exact Nat.pow_le_pow_right (by decide) hq
  have hn3 : n ≤ 1048576 := hn2
  have e : (n : Int) - 1 = 2 ^ q - 1 := by rw [hn]; simp
  rw [e, bits_mask .i64 63 (by decide) (fun n h0 h1 => IntWalk.i64_in n (by omega)) q (by omega) _ (by omega) (by omega), pos_succ k j hpos]
  have e2 : (2 : Int) ^ q = ((n : Nat) : Int) := by rw [hn]; simp
  rw [e2, Int.natCast_emod, Int.natCast_add]
  rfl

set_option maxRecDepth 100000 in
set_option maxHeartbeats 4000000 in
theorem find_some {w : World} {b s c : Nat} {kk tt : Int} {S : List Sl} (ho : Obj3 w b (some ⟨s, 0, none⟩) S.length c kk tt) (hr : Row w s S) (hP : Paths S) (hq : ∃ q, 3 ≤ q ∧ q ≤ 13 ∧ S.length = 2 ^ q) (hf : ∃ i : Nat, S[i]? = some .free) (k : Int) :
    Calls Try.prog 26 #[.pointer (some ⟨b, 0, none⟩), .int .u64 k] w (Finds S k w) := by
  obtain ⟨q, hq1, hq2, hqn⟩ := hq
  have hn2 : S.length ≤ 8192 := by rw [hqn]; exact Nat.le_trans (Nat.pow_le_pow_right (by decide) hq2) (by decide)
  have hn8 : 8 ≤ S.length := by rw [hqn]; exact Nat.le_trans (by decide) (Nat.pow_le_pow_right (by decide) hq1)
  have H23 := Lib.hid (slots_obj ho)
  have H30 : Hid (∀ w, Calls Try.prog 30 #[.int .u64 k, .int .i64 S.length] w fun e w' => e = .returned (.int .i64 (pos k S.length 0)) ∧ w' = w) := Lib.hid fun w => by
    rw [pos_zero k (show 0 < S.length by omega)]
    exact start_any k S.length (by omega) (by omega) w
  have HM : Hid (∀ j, bits BinOp.and IntKind.i64 ((pos k S.length j : Int) + 1) ((S.length : Int) - 1) = ((pos k S.length (j + 1) : Nat) : Int)) := Lib.hid fun j => mask_step k hqn (by omega)
  have HP := Lib.hid hP
  have HF := Lib.hid hf
  have HO := Lib.hid ho
  have HR := Lib.hid hr
  have c0 := ho.c0
  clear hP hf ho hr hqn
  go_enter Try.func26, Try.ntmps26
  go_wp2_with fail
  refine @wp_scope_goto _ _ _ _ _ ?r 0 ?hf (fun n a w' => ∃ (j : Nat) (g : Int), n = S.length - j ∧ Past S k j ∧ Grave S k j g ∧ Below w.heap.size w w' ∧ a = ⟨#[.pointer (some ⟨b, 0, none⟩), .int .u64 k, a.tmps.getD 2 undef, a.tmps.getD 3 undef, .int .i64 (pos k S.length j), a.tmps.getD 5 undef, .int .i64 g, a.tmps.getD 7 undef, a.tmps.getD 8 undef, a.tmps.getD 9 undef, a.tmps.getD 10 undef, a.tmps.getD 11 undef, a.tmps.getD 12 undef, a.tmps.getD 13 undef, a.tmps.getD 14 undef, a.tmps.getD 15 undef, a.tmps.getD 16 undef, a.tmps.getD 17 undef, a.tmps.getD 18 undef, a.tmps.getD 19 undef, a.tmps.getD 20 undef, a.tmps.getD 21 undef, a.tmps.getD 22 undef, a.tmps.getD 23 undef, a.tmps.getD 24 undef, a.tmps.getD 25 undef, a.tmps.getD 26 undef, a.tmps.getD 27 undef, a.tmps.getD 28 undef, a.tmps.getD 29 undef, a.tmps.getD 30 undef, a.tmps.getD 31 undef, a.tmps.getD 32 undef, a.tmps.getD 33 undef, a.tmps.getD 34 undef, a.tmps.getD 35 undef, a.tmps.getD 36 undef, a.tmps.getD 37 undef, a.tmps.getD 38 undef, a.tmps.getD 39 undef, a.tmps.getD 40 undef, a.tmps.getD 41 undef, a.tmps.getD 42 undef, a.tmps.getD 43 undef, a.tmps.getD 44 undef, a.tmps.getD 45 undef, a.tmps.getD 46 undef, a.tmps.getD 47 undef, a.tmps.getD 48 undef, a.tmps.getD 49 undef, a.tmps.getD 50 undef, a.tmps.getD 51 undef, a.tmps.getD 52 undef, a.tmps.getD 53 undef, a.tmps.getD 54 undef, a.tmps.getD 55 undef, a.tmps.getD 56 undef, a.tmps.getD 57 undef, a.tmps.getD 58 undef, a.tmps.getD 59 undef, a.tmps.getD 60 undef, a.tmps.getD 61 undef, a.tmps.getD 62 undef, a.tmps.getD 63 undef, a.tmps.getD 64 undef, a.tmps.getD 65 undef, a.tmps.getD 66 undef, a.tmps.getD 67 undef], []⟩) (fun J HJ => ?_) ?_
  case hf => rfl
  · have HJ' := Lib.hid HJ
    clear HJ
    go_wp2_with fail
    refine H23.out.mono ?_
    rintro e w1 ⟨rfl, rfl⟩
    go_wp2_with fail
    refine (H30.out _).mono ?_
    rintro e w1 ⟨rfl, rfl⟩
    go_wp2_with fail
    rename_i K hK
    refine wp_label ?_
    refine hK _ _ ?_
    refine HJ'.out S.length _ _ ?_
    exact (⟨0, -1, rfl, Past.zero _ _, .inl rfl, Below.refl _ _, rfl⟩)
  · rintro n a w' ⟨j, g, rfl, hp, hg, hb, ha⟩ J HJ
    obtain ⟨u, rfl⟩ : ∃ u : Nat → Value, a = ⟨#[.pointer (some ⟨b, 0, none⟩), .int .u64 k, u 2, u 3, .int .i64 (pos k S.length j), u 5, .int .i64 g, u 7, u 8, u 9, u 10, u 11, u 12, u 13, u 14, u 15, u 16, u 17, u 18, u 19, u 20, u 21, u 22, u 23, u 24, u 25, u 26, u 27, u 28, u 29, u 30, u 31, u 32, u 33, u 34, u 35, u 36, u 37, u 38, u 39, u 40, u 41, u 42, u 43, u 44, u 45, u 46, u 47, u 48, u 49, u 50, u 51, u 52, u 53, u 54, u 55, u 56, u 57, u 58, u 59, u 60, u 61, u 62, u 63, u 64, u 65, u 66, u 67], []⟩ := ⟨fun i => a.tmps.getD i undef, ha⟩
    clear ha H23 H30
    obtain ⟨i, hi⟩ := HF.out
    have hj : j < S.length := hp.lt hi
    have hpl : pos k S.length j < S.length := pos_lt k j (by omega)
    obtain ⟨x, hx⟩ : ∃ x, S[pos k S.length j]? = some x := ⟨_, List.getElem?_eq_getElem hpl⟩
    have hm := HM.out j
    obtain ⟨d0, d1, d2⟩ := ((HR.out.keep (hb.block s HR.out.lt))).get hx
    have hc0 := obj3 ((hb.block b (heap_lt HO.out.whole)).trans HO.out.whole)
    have e0 := hc0.c0
    clear hc0 c0
    have HX := Lib.hid hx
    have HPA := Lib.hid hp
    have HG := Lib.hid hg
    have HB := Lib.hid hb
    have HJ' := Lib.hid HJ
    clear hx hp hg hb hi HJ
    obtain ⟨p, hp⟩ : ∃ p, pos k S.length j = p := ⟨_, rfl⟩
    rw [hp] at hpl hm d0 d1 d2 ⊢
    have HX' : Hid (S[p]? = some x) := Lib.hid (hp ▸ HX.out)
    have hp' := Lib.hid hp
    clear hp
    go_upto_region 6 with fail
    obtain ⟨V, hV⟩ : ∃ V : World, V = w'.alloc (.cells #[.int .u8 x.st, .int .u64 x.key, .int .i64 x.val] 59) := ⟨_, rfl⟩
    obtain ⟨vb, hvb⟩ : ∃ vb : Nat, w'.heap.size = vb := ⟨_, rfl⟩
    have hVv : V.heap[vb]? = some (.cells #[.int .u8 x.st, .int .u64 x.key, .int .i64 x.val] 59 (0, 0)) := by rw [hV]; exact new_at _ hvb
    have v0 : V.cell? ⟨vb, 0, none⟩ = some (.int .u8 x.st) := cell_of_row _ _ 0 _ 59 (0, 0) hVv
    have v1 : V.cell? ⟨vb, 1, none⟩ = some (.int .u64 x.key) := cell_of_row _ _ 1 _ 59 (0, 0) hVv
    have HBV := Lib.hid (show Below w.heap.size w V by rw [hV]; exact HB.out.alloc HB.out.size _)
    have e1 : V.cell? ⟨b, 0, none⟩ = some (.slice (some ⟨s, 0, none⟩) S.length c) := (obj3 ((HBV.out.block b (heap_lt HO.out.whole)).trans HO.out.whole)).c0
    rw [← hV, hvb]
    clear hV hVv e0 d0 d1 d2 HB hvb
    rcases x with _ | _ | ⟨k', v'⟩
    · replace v0 : V.cell? ⟨vb, 0, none⟩ = some (.int .u8 0) := v0
      rcases HG.out with rfl | ⟨d, hd, rfl, ht⟩
      · go_wp2_with fail
        rw [goes_ret]
        go_ret2
        refine ⟨p, false, rfl, .inr ⟨rfl, ?_⟩, HBV.out⟩
        have := HPA.out.free HP.out HX.out
        rw [hp'.out] at this
        exact this
      · have HT := Lib.hid ht
        clear ht
        go_wp2_with fail
        rw [goes_ret]
        go_ret2
        exact ⟨_, false, rfl, .inr ⟨rfl, HPA.out.grave HP.out HX.out hd HT.out⟩, HBV.out⟩
    · replace v0 : V.cell? ⟨vb, 0, none⟩ = some (.int .u8 2) := v0
      have HS := Lib.hid (HPA.out.succ (by rw [HX.out]; simp) (fun v => by rw [HX.out]; simp))
      rcases HG.out with rfl | ⟨d, hd, rfl, ht⟩
      · go_wp2_with fail
        refine wp_goto (goes_goto ?_)
        refine HJ'.out (S.length - (j + 1)) _ _ (by omega) ⟨j + 1, p, rfl, HS.out, .inr ⟨j, by omega, by rw [hp'.out], HX.out⟩, HBV.out, rfl⟩
      · have HT := Lib.hid ht
        clear ht
        go_wp2_with fail
        refine wp_goto (goes_goto ?_)
        refine HJ'.out (S.length - (j + 1)) _ _ (by omega) ⟨j + 1, _, rfl, HS.out, .inr ⟨d, by omega, rfl, HT.out⟩, HBV.out, rfl⟩
    · replace v0 : V.cell? ⟨vb, 0, none⟩ = some (.int .u8 1) := v0
      replace v1 : V.cell? ⟨vb, 1, none⟩ = some (.int .u64 k') := v1
      by_cases hk : k' = k
      · subst hk
        go_wp2_with fail
        rw [goes_ret]
        go_ret2
        exact ⟨p, true, rfl, .inl ⟨rfl, hpl, v', HX'.out⟩, HBV.out⟩
      · have HS := Lib.hid (HPA.out.succ (by rw [HX.out]; simp) (fun v => by rw [HX.out]; simp [hk]))
        rcases HG.out with rfl | ⟨d, hd, rfl, ht⟩
        · go_wp2_with fail
          refine wp_goto (goes_goto ?_)
          refine HJ'.out (S.length - (j + 1)) _ _ (by omega) ⟨j + 1, -1, rfl, HS.out, .inl rfl, HBV.out, rfl⟩
        · have HT := Lib.hid ht
          clear ht
          go_wp2_with fail
          refine wp_goto (goes_goto ?_)
          refine HJ'.out (S.length - (j + 1)) _ _ (by omega) ⟨j + 1, _, rfl, HS.out, .inr ⟨d, by omega, rfl, HT.out⟩, HBV.out, rfl⟩
end Go.Proofs.Ytedekcphgcmlnaa
