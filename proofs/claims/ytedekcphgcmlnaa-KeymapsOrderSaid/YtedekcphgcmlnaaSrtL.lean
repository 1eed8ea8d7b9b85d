/- Sorting numbers: patterns are broken, three exchanges. -/
import Derived.Test.YtedekcphgcmlnaaSrtK
namespace Go.Proofs.Ytedekcphgcmlnaa
open Go.RowKit Go.Sort

set_option maxRecDepth 100000 in
set_option maxHeartbeats 8000000 in
theorem break_any {w : World} {g n cap a b : Nat} {d : Array Int} (h : RA w g d) (hn : d.size = n) (hab : a + 12 < b) (hb : b ≤ n) (hn2 : n ≤ 1000000) :
    Calls Try.prog 36 #[.slice (some ⟨g, 0, none⟩) n cap, .int .i64 a, .int .i64 b] w fun e w' => e = .returned (.tuple #[]) ∧ ∃ d', SI w w' g n d' ∧ PermIn a b d d' := by
  obtain ⟨l, hl⟩ : ∃ l : Nat, (b : Int) - (a : Int) = (l : Int) := ⟨b - a, by omega⟩
  obtain ⟨q, hq, hq2⟩ : ∃ q : Nat, (l : Int) / 4 = (q : Int) ∧ q = l / 4 := ⟨l / 4, rfl, rfl⟩
  obtain ⟨J, hJ⟩ : ∃ J : Nat, (a : Int) + (q : Int) * 2 = (J : Int) := ⟨a + q * 2, by omega⟩
  obtain ⟨T, hT, hT2⟩ : ∃ T : Nat, (J : Int) - 1 = (T : Int) ∧ J = T + 1 := ⟨J - 1, by omega, by omega⟩
  obtain ⟨E, hE⟩ : ∃ E : Nat, (J : Int) + 1 = (E : Int) := ⟨J + 1, by omega⟩
  have hgl : g < w.heap.size := heap_lt h
  have hTa : a < T := by omega
  have hEb : E < b := by omega
  have hTE : T ≤ E := by omega
  have hb1 : l ≤ 1000000 := by omega
  have hl8 : (8 : Int) ≤ (l : Int) := by omega
  have hb2 : q ≤ 1000000 := by omega
  have hb3 : a ≤ 1000000 := by omega
  have hb4 : E ≤ 1000000 := by omega
  have hb5 : J ≤ 1000000 := by omega
  have hlb : b = a + l := by omega
  have HLB := Lib.hid hlb
  have H0 : Hid (BI w (w.alloc (.cells #[.int .u64 l] 78)) g w.heap.size n a b d d l) := Lib.hid ⟨h.keep (Below.heap_alloc _ _ g hgl), ⟨new_at _ rfl, Fr.refl _ _ _, by omega, by omega⟩, (Fr.refl _ _ _).alloc _, hn, by omega, permIn_refl d a b⟩
  have HP := Lib.hid (fun W => pow_any (w := W) (l := l) (by omega) hb1)
  obtain ⟨s, hs⟩ : ∃ s : Nat, w.heap.size = s := ⟨_, rfl⟩
  have HSI := Lib.hid (fun W d' z (h : BI w W g s n a b d d' z) => (show SI w W g n d' from BI.si (hs ▸ h)))
  have HN := Lib.hid (fun W d' z (h : BI w W g s n a b d d' z) => next_any h.xs)
  have HG := Lib.hid (fun W d' z (h : BI w W g s n a b d d' z) => (show g < W.heap.size from Nat.lt_of_lt_of_le hgl h.fr.size))
  rw [hs] at H0
  have hwl : IntKind.u64.wrap (l : Int) = l := by rw [IntKind.wrap_u64]; omega
  clear h hn hq2 hT2 hab hlb
  go_enter Try.func36, Try.ntmps36
  go_upto_region 3 with fail
  obtain ⟨V, hV⟩ : ∃ V : World, w.alloc (.cells #[.int .u64 l] 78) = V := ⟨_, rfl⟩
  rw [hV] at H0 ⊢
  clear hV
  go_wp2_with fail
  refine (HP.out _).mono ?_
  rintro e w1 ⟨k, rfl, hk1, hk2, rfl⟩
  obtain ⟨M, hM⟩ : ∃ M : Nat, 2 ^ k = M := ⟨_, rfl⟩
  have HK := Lib.hid (fun z h0 h1 => and_pow z k hk2 h0 h1)
  have hM0 : 0 < M := by rw [← hM]; exact Nat.two_pow_pos k
  rw [hM] at hk1 HK ⊢
  clear hM HP
  go_upto_block 0 with fail
  go_wp2_with fail
  go_loopg [9] (E + 1 - T) (fun k v wr => ∃ (i : Nat) (d' : Array Int) (z : Int), v = .int .i64 i ∧ k = E + 1 - i ∧ T ≤ i ∧ Hid (BI w wr g s n a b d d' z))
  case atStart => exact ⟨T, d, _, rfl, rfl, Nat.le_refl _, H0⟩
  case round =>
    clear H0
    obtain ⟨i, d', z, rfl, rfl, hi, HB⟩ := hrel
    by_cases hiE : i ≤ E
    · have hiE2 : (i : Int) ≤ (E : Int) := by omega
      have HN2 := Lib.hid (HN.out _ _ _ HB.out)
      go_wp2_with fail
      refine HN2.out.mono ?_
      rintro e w2 ⟨z', rfl, hx⟩
      have HB2 := Lib.hid (HB.out.next hx (HG.out _ _ _ HB.out))
      obtain ⟨r, hr⟩ : ∃ r : Nat, z' % (M : Int) = (r : Int) := ⟨(z' % (M : Int)).toNat, by have := Int.emod_nonneg z' (show (M : Int) ≠ 0 by omega); omega⟩
      have hrM : r < M := by have := Int.emod_lt_of_pos z' (show (0 : Int) < (M : Int) by omega); omega
      have hbits := HK.out z' hx.lo hx.hi
      rw [hr] at hbits
      have hMw : IntKind.u64.wrap ((M : Int) - 1) = (M : Int) - 1 := by rw [IntKind.wrap_u64]; omega
      have hrw : IntKind.i64.wrap (r : Int) = (r : Int) := IntWalk.i64_in _ (by omega)
      clear hr hx HN2 HB
      by_cases hrl : r < l
      · have hrl2 : ¬ ((l : Int) ≤ (r : Int)) := by omega
        obtain ⟨A, hA, hA2⟩ : ∃ A : Nat, (a : Int) + (r : Int) = (A : Int) ∧ A = a + r := ⟨a + r, rfl, rfl⟩
        obtain ⟨p, q0, hp, hq0, x0, x1, y0, y1, HW⟩ := HB2.out.two hb (i := i) (j := A) (by omega) (by omega) (by omega) (by have := HLB.out; omega)
        have hAn : A < n := by have := HLB.out; omega
        have hin : i < n := by omega
        clear hA2 HB2
        rcases Nat.lt_or_ge i A with hne | hge
        · have hne1 : ¬ (i = A) := by omega
          clear hp hq0 hne
          go_upto_region 10 with fail
          go_region
          go_wp2_with fail
          go_roundg (E + 1 - (i + 1))
          case measure => omega
          case rel => exact ⟨i + 1, _, _, by go_num, rfl, by omega, Lib.hid (HW.out 1)⟩
        · rcases Nat.eq_or_lt_of_le hge with he | hne
          · subst he
            obtain rfl : p = q0 := by rw [← hp, ← hq0]
            clear hp hq0
            go_upto_region 10 with fail
            go_region
            go_wp2_with fail
            go_roundg (E + 1 - (A + 1))
            case measure => omega
            case rel => exact ⟨A + 1, _, _, by go_num, rfl, by omega, Lib.hid (HW.out 1)⟩
          · have hne1 : ¬ (i = A) := by omega
            clear hp hq0 hne
            go_upto_region 10 with fail
            go_region
            go_wp2_with fail
            go_roundg (E + 1 - (i + 1))
            case measure => omega
            case rel => exact ⟨i + 1, _, _, by go_num, rfl, by omega, Lib.hid (HW.out 1)⟩
      · have hrl2 : (l : Int) ≤ (r : Int) := by omega
        obtain ⟨o, ho, ho2⟩ : ∃ o : Nat, (r : Int) - (l : Int) = (o : Int) ∧ o = r - l := ⟨r - l, by omega, rfl⟩
        obtain ⟨A, hA, hA2⟩ : ∃ A : Nat, (a : Int) + (o : Int) = (A : Int) ∧ A = a + o := ⟨a + o, rfl, rfl⟩
        obtain ⟨p, q0, hp, hq0, x0, x1, y0, y1, HW⟩ := HB2.out.two hb (i := i) (j := A) (by omega) (by omega) (by omega) (by have := HLB.out; omega)
        have hAn : A < n := by have := HLB.out; omega
        have hin : i < n := by omega
        have hob : o ≤ 2000000 := by omega
        clear hA2 HB2 ho2
        rcases Nat.lt_or_ge i A with hne | hge
        · have hne1 : ¬ (i = A) := by omega
          clear hp hq0 hne
          go_upto_region 10 with fail
          go_region
          go_wp2_with fail
          go_roundg (E + 1 - (i + 1))
          case measure => omega
          case rel => exact ⟨i + 1, _, _, by go_num, rfl, by omega, Lib.hid (HW.out 1)⟩
        · rcases Nat.eq_or_lt_of_le hge with he | hne
          · subst he
            obtain rfl : p = q0 := by rw [← hp, ← hq0]
            clear hp hq0
            go_upto_region 10 with fail
            go_region
            go_wp2_with fail
            go_roundg (E + 1 - (A + 1))
            case measure => omega
            case rel => exact ⟨A + 1, _, _, by go_num, rfl, by omega, Lib.hid (HW.out 1)⟩
          · have hne1 : ¬ (i = A) := by omega
            clear hp hq0 hne
            go_upto_region 10 with fail
            go_region
            go_wp2_with fail
            go_roundg (E + 1 - (i + 1))
            case measure => omega
            case rel => exact ⟨i + 1, _, _, by go_num, rfl, by omega, Lib.hid (HW.out 1)⟩
    · have hiE2 : ¬ ((i : Int) ≤ (E : Int)) := by omega
      go_wp2_with fail
      refine bodyPost_end (results_none rfl _ _ _) rfl ?_
      exact ⟨rfl, d', HSI.out _ _ _ HB.out, HB.out.perm⟩
end Go.Proofs.Ytedekcphgcmlnaa
