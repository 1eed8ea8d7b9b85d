/- The walk of the law KeymapsNil. -/
import Derived.Test.YtedekcphgcmlnaaLivW
namespace Go.Proofs.Ytedekcphgcmlnaa
open Go.RowKit

theorem put_one {k : Int} (hk : k ≠ 0) (v : Int) : putL [] k v = ([(k, v)], 0) := by
  simp [putL, hk, hasK, atI]
theorem drop_one (k v : Int) : dropL [(k, v)] k = ([], true) := by
  simp [dropL, hasK, atI]
set_option maxRecDepth 100000 in
set_option maxHeartbeats 8000000 in
theorem nil_k {N : Nat} (hS : SortU N) (hN : 2 ≤ N) (k v : Int) (f : Int) (g : Bool) (L : PL) (hp : putL [] k v = (L, f)) (hd : (dropL L k).2 = g) (hf : (k = 0 ∧ f = 9 ∧ g = false) ∨ (k ≠ 0 ∧ f = 0 ∧ g = true)) (w : World) :
    Calls Try.prog 7 #[.int .u64 k, .int .i64 v] w (Yes w) := by
  have HLv := Lib.hid (fun w => lives_any hS hN w)
  have HZ : Hid (Lm w (w.alloc (.cells #[.slice none 0 0, .int .i64 0, .int .i64 0] 54)) w.heap.size [] 0) := Lib.hid
    ⟨w.heap.size, [], ⟨⟨none, 0, new_at _ rfl, fun _ => ⟨rfl, rfl⟩, fun h => absurd rfl h⟩, fun h => absurd rfl h⟩, good_nil 0, Nat.le_refl _, Nat.le_refl _, (Below.refl _ _).alloc (Nat.le_refl _) _⟩
  have HP := Lib.hid hp
  have HD := Lib.hid hd
  have HF := Lib.hid hf
  have N1 := Lib.hid (fun w => get_nil w k)
  have N2 := Lib.hid (fun w => clear_nil w)
  have N3 := Lib.hid (fun w => put_nil w k v)
  have N4 := Lib.hid (fun w => drop_nil w k)
  have N5 := Lib.hid (fun w => len_nil w)
  have N6 := Lib.hid (fun w => slots_nil w)
  have N7 := Lib.hid (fun w => tombs_nil w)
  have N8 := Lib.hid (fun w => keys_nil w)
  have N9 := Lib.hid (fun w => copy_nil w)
  clear hS hp hd hf
  obtain ⟨b, hb⟩ : ∃ b : Nat, w.heap.size = b := ⟨_, rfl⟩
  go_enter Try.func7, Try.ntmps7
  go_upto_region 3 with fail
  obtain ⟨V, hV⟩ : ∃ V : World, w.alloc (.cells #[.slice none 0 0, .int .i64 0, .int .i64 0] 54) = V := ⟨_, rfl⟩
  rw [hV, hb] at HZ
  rw [hV]
  have HBB := Lib.hid hb
  clear hV hb
  go_wp2_with fail
  refine (N1.out _).mono ?_
  rintro e w1 ⟨rfl, rfl⟩
  go_wp2_with fail
  refine (N2.out _).mono ?_
  rintro e w1 ⟨rfl, rfl⟩
  go_wp2_with fail
  refine (N3.out _).mono ?_
  rintro e w1 ⟨rfl, rfl⟩
  go_wp2_with fail
  refine (N4.out _).mono ?_
  rintro e w1 ⟨rfl, rfl⟩
  go_wp2_with fail
  refine (N5.out _).mono ?_
  rintro e w1 ⟨rfl, rfl⟩
  go_wp2_with fail
  refine (N6.out _).mono ?_
  rintro e w1 ⟨rfl, rfl⟩
  go_wp2_with fail
  refine (N7.out _).mono ?_
  rintro e w1 ⟨rfl, rfl⟩
  go_wp2_with fail
  refine (N8.out _).mono ?_
  rintro e w1 ⟨rfl, rfl⟩
  go_wp2_with fail
  refine (N9.out _).mono ?_
  rintro e w1 ⟨rfl, rfl⟩
  rename World => V
  have C1 : Hid (Calls Try.prog 15 #[.pointer (some ⟨b, 0, none⟩), .int .u64 k] V fun e w' => e = .returned (.tuple #[.int .i64 0, .bool false]) ∧ Lm w w' b [] 0) := Lib.hid (lm_get HZ.out k)
  clear N1 N2 N3 N4 N5 N6 N7 N8 N9
  go_wp2_with fail
  refine C1.out.mono ?_
  rintro e W1 ⟨rfl, h1x⟩
  have h1 := Lib.hid h1x
  have C2 : Hid (Calls Try.prog 12 #[.pointer (some ⟨b, 0, none⟩), .int .u64 k] W1 fun e w' => e = .returned (.bool false) ∧ Lm w w' b [] 0) := Lib.hid (lm_drop h1.out k)
  clear h1x C1 HZ
  have HC3 : Hid (∀ W, Lm w W b [] 0 → Calls Try.prog 14 #[.pointer (some ⟨b, 0, none⟩), .int .u64 k, .int .i64 v] W fun e w' => e = .returned (.int .i64 f) ∧ Lm w w' b L (max 0 L.length)) := Lib.hid (fun W h => by
    have := lm_put h k v
    rw [HP.out] at this
    exact this)
  have HC4 : Hid (∀ W, Lm w W b L (max 0 L.length) → Calls Try.prog 12 #[.pointer (some ⟨b, 0, none⟩), .int .u64 k] W fun e w' => e = .returned (.bool g) ∧ Lm w w' b (dropL L k).1 (max 0 L.length)) := Lib.hid (fun W h => by
    have := lm_drop h k
    rw [HD.out] at this
    exact this)
  clear HP HD
  rcases HF.out with ⟨rfl, rfl, rfl⟩ | ⟨hk, rfl, rfl⟩
  all_goals
    try have hk' : (k = 0) = False := by simp [hk]
    try have hk2 : (k != 0) = true := by simp [hk]
    clear HF
    go_wp2_with fail
    refine C2.out.mono ?_
    rintro e W2 ⟨rfl, h2x⟩
    have h2 := Lib.hid h2x
    have C3 := Lib.hid (HC3.out _ h2.out)
    clear h2x C2 h1 HC3
    go_wp2_with fail
    refine C3.out.mono ?_
    rintro e W3 ⟨rfl, h3x⟩
    have h3 := Lib.hid h3x
    have C4 := Lib.hid (HC4.out _ h3.out)
    clear h3x C3 h2 HC4
    go_wp2_with fail
    refine C4.out.mono ?_
    rintro e W4 ⟨rfl, h4x⟩
    have h4 := Lib.hid h4x
    clear h4x C4 h3
    go_wp2_with fail
    refine (HLv.out _).mono ?_
    rintro e W5 ⟨rfl, hb5⟩
    have HB5 := Lib.hid hb5
    clear hb5
    go_wp2_with fail
    go_ret
    exact ⟨rfl, h4.out.u.trans (HB5.out.mono h4.out.u.size)⟩
theorem lawN_any {N : Nat} (hS : SortU N) (hN : 2 ≤ N) (k v : Int) (w : World) : Calls Try.prog 7 #[.int .u64 k, .int .i64 v] w (Yes w) := by
  by_cases hk : k = 0
  · subst hk
    exact nil_k hS hN 0 v 9 false [] (put_zero [] v) rfl (.inl ⟨rfl, rfl, rfl⟩) w
  · exact nil_k hS hN k v 0 true _ (put_one hk v) (by rw [drop_one]) (.inr ⟨hk, rfl, rfl⟩) w
end Go.Proofs.Ytedekcphgcmlnaa
