/- Sorting numbers: slices.Sort. -/
import Derived.Test.YtedekcphgcmlnaaSrtM
namespace Go.Proofs.Ytedekcphgcmlnaa
open Go.RowKit Go.Sort

theorem pdq_any {g n cap : Nat} (hn2 : n ≤ 1000000) : ∀ (L : Nat) (W : World) (a b l : Nat) (d : Array Int), b - a < L → l ≤ 64 → RA W g d → d.size = n → a ≤ b → b ≤ n → Go.Sort.Below ltInt a b d →
    Calls Try.prog 31 #[.slice (some ⟨g, 0, none⟩) n cap, .int .i64 a, .int .i64 b, .int .i64 l] W (PdqC W g n a b d) := by
  intro L
  induction L with
  | zero => intro W a b l d h; omega
  | succ L ih =>
    intro W a b l d hL hl hr hn hab hb hbel
    exact pdq_round l hl hr hn hab hb hn2 hbel (fun W' a' b' l' d' h1 h2 h3 h4 h5 h6 h7 => ih W' a' b' l' d' (by omega) h2 h3 h4 h5 h6 h7)
theorem len_le (l : Nat) (h : l < 2 ^ 64) : Lib.bitLen l ≤ 64 := by
  rcases Nat.eq_zero_or_pos l with h0 | h0
  · subst h0; decide
  · have hp := pow_le l h0 h
    rcases Nat.lt_or_ge 64 (Lib.bitLen l) with h1 | h1
    · have : 2 ^ 65 ≤ 2 ^ Lib.bitLen l := Nat.pow_le_pow_right (by decide) h1
      omega
    · exact h1
/-- slices.Sort sorts -/
theorem sort_all (k : Nat) (hk : k ≤ 1000000) : SortU k := by
  intro w g zs hz hr
  have hn : zs.toArray.size = zs.length := by simp
  have hr' : RA w g zs.toArray := by unfold RA; simpa using hr
  have HL := Lib.hid (fun w => Try.bits_Len (zs.length : Int) w (by omega) (by omega))
  have hlen := len_le zs.length (by omega)
  have HP := Lib.hid (fun (l : Nat) (hl : l ≤ 64) => pdq_any (cap := zs.length) (show zs.length ≤ 1000000 by omega) (zs.length + 1) w 0 zs.length l zs.toArray (by omega) hl hr' hn (Nat.zero_le _) (Nat.le_refl _) (.inl rfl))
  have hw : IntKind.u64.wrap (zs.length : Int) = zs.length := by rw [IntKind.wrap_u64]; omega
  clear hr hr'
  go_enter Try.func29, Try.ntmps29
  go_wp2_with fail
  refine (HL.out _).mono ?_
  rintro e w1 ⟨rfl, rfl⟩
  obtain ⟨m, hm⟩ : ∃ m, Lib.bitLen (Int.toNat (zs.length : Int)) = m := ⟨_, rfl⟩
  rw [hm]
  rw [Int.toNat_natCast] at hm
  have hm2 : m ≤ 64 := by omega
  have HP2 := Lib.hid (HP.out m hm2)
  clear HP hm hlen
  go_wp2_with fail
  refine (HP2.out).mono ?_
  rintro e w2 ⟨rfl, d', hs, hp, hso⟩
  have HS := Lib.hid hs
  have hI := And.intro hp hso
  have HI := Lib.hid hI
  clear hs hp hso hI
  go_wp2_with fail
  refine bodyPost_end (results_none rfl _ _ _) rfl ?_
  have hI := HI.out
  rw [← hn] at hI
  obtain ⟨q1, q2⟩ := sorted_list hI.1 hI.2
  exact ⟨rfl, ⟨_, HS.out.row, q1, q2⟩, HS.out.fr⟩
theorem sort80 : SortU 80 := sort_all 80 (by decide)
end Go.Proofs.Ytedekcphgcmlnaa
