/- The walk of same. -/
import Derived.Test.YtbkfebnggomhdaaBase
namespace Go.Proofs.Ytbkfebnggomhdaa
open Go.RowKit
/-- spans are those that were asked for, without spare capacity, beside the error that was asked for -/
def sameB (xs : List Sp) (c : Nat) (e : Int) (ys : List Sp) (f : Int) : Bool := decide (e = f ∧ c = xs.length ∧ xs = ys)
theorem sameB_f {xs ys : List Sp} {c : Nat} {e f : Int} (h : ¬ (e = f ∧ c = xs.length ∧ xs = ys)) : sameB xs c e ys f = false := decide_eq_false h
theorem sameB_t {xs ys : List Sp} {c : Nat} {e f : Int} (h1 : e = f) (h2 : c = xs.length) (h3 : xs = ys) : sameB xs c e ys f = true := decide_eq_true ⟨h1, h2, h3⟩
theorem take_ne {xs ys : List Sp} {k : Nat} (hx : k < xs.length) (hy : k < ys.length) (h : xs[k] ≠ ys[k]) : xs ≠ ys := fun e => h (by subst e; rfl)

set_option maxHeartbeats 2000000 in
theorem same_any (A : Option Addr) (c : Nat) (xs : List Sp) (e : Int) (D : Option Addr) (d : Nat) (ys : List Sp) (f : Int) (w : World) (hr : Rd w w.heap.size A xs) (hq : Rd w w.heap.size D ys)
    (hl : xs.length ≤ 2000000000) (hl2 : ys.length ≤ 2000000000) (hlc : c ≤ 4611686018427387904) :
    Calls Try.prog 17 #[.slice A xs.length c, .int .i64 e, .slice D ys.length d, .int .i64 f] w fun r w' => r = .returned (.bool (sameB xs c e ys f)) ∧ Below w.heap.size w w' := by
  by_cases he : e = f
  · by_cases hn : xs.length = ys.length
    · by_cases hc : c = xs.length
      · have HE := Lib.hid he
        have hee : (e != f) = false := by simpa using he
        clear he
        subst hc
        have HL := Lib.hid hn
        generalize hny : ys.length = n at hn hl2 HL ⊢
        subst hn
        have HNY := Lib.hid hny
        clear hny
        generalize hnx : xs.length = n at *
        have HNX := Lib.hid hnx
        clear hnx
        go_enter Try.func17, Try.ntmps17
        go_wp2_with fail
        clear hee
        go_loopw [9] (fun i wr => ∃ k : Nat, i = .int .i64 k ∧ k ≤ n ∧ Hid (xs.take k = ys.take k) ∧ Below w.heap.size w wr) (fun i _ => n - (intOf i).toNat)
        case atStart => exact ⟨0, rfl, Nat.zero_le _, rfl, Below.refl _ _⟩
        case round =>
          obtain ⟨k, rfl, hk, HT, hb⟩ := hrel
          by_cases hlt : k < n
          · have hkx : k < xs.length := by rw [HNX.out]; exact hlt
            have hky : k < ys.length := by rw [HNY.out]; exact hlt
            obtain ⟨b, o, hA, hbl, c0, c1⟩ := hr.below hb k hkx
            subst hA
            obtain ⟨b2, o2, hA2, hbl2, d0, d1⟩ := hq.below hb k hky
            subst hA2
            have tx := Lib.hid (take_snoc xs k hkx)
            have ty := Lib.hid (take_snoc ys k hky)
            have hne := Lib.hid (take_ne hkx hky)
            generalize xs[k] = s at *
            generalize ys[k] = t at *
            obtain ⟨p, q⟩ := s
            obtain ⟨p2, q2⟩ := t
            simp only at c0 c1 d0 d1
            have hi0 : (0 : Int) ≤ (k : Int) := Int.natCast_nonneg _
            have hi1 : (k : Int) < (n : Int) := by omega
            clear hkx hky
            by_cases h1 : p = p2
            · by_cases h2 : q = q2
              · have e1 : (p != p2) = false := by simpa using h1
                have e2 : (q != q2) = false := by simpa using h2
                have HT2 : Hid (xs.take (k + 1) = ys.take (k + 1)) := by rw [tx.out, ty.out, HT.out, h1, h2]; rfl
                clear h1 h2
                go_wp2_with fail
                go_quiet (fail)
                go_wp2_with fail
                go_roundw
                case rel => exact ⟨k + 1, by go_num, by omega, HT2, below_drewN hb _⟩
                case measure => simp [intOf]; omega
              · have e1 : (p != p2) = false := by simpa using h1
                have e2 : (q != q2) = true := by simpa using h2
                have HF := Lib.hid (sameB_f (xs := xs) (ys := ys) (c := n) (e := e) (f := f) (fun h => hne.out (by simp [h2]) h.2.2))
                clear h1 h2
                go_wp2_with fail
                go_quiet (fail)
                go_wp2_with fail
                go_ret
                exact ⟨ret_bool HF.out.symm, below_drewN hb _⟩
            · have e1 : (p != p2) = true := by simpa using h1
              have HF := Lib.hid (sameB_f (xs := xs) (ys := ys) (c := n) (e := e) (f := f) (fun h => hne.out (by simp [h1]) h.2.2))
              clear h1
              go_wp2_with fail
              go_quiet (fail)
              go_wp2_with fail
              go_ret
              exact ⟨ret_bool HF.out.symm, below_drewN hb _⟩
          · have HX : Hid (sameB xs n e ys f = true) := sameB_t HE.out HNX.out.symm (by have h := HT.out; rwa [List.take_of_length_le (by have := HNX.out; omega), List.take_of_length_le (by have := HNY.out; omega)] at h)
            go_wp2_with fail
            go_ret
            exact ⟨ret_bool HX.out.symm, hb⟩
      · have HF := Lib.hid (sameB_f (xs := xs) (ys := ys) (c := c) (e := e) (f := f) (fun h => hc h.2.1))
        have hee : (e != f) = false := by simpa using he
        have hnn : ((xs.length : Int) != (ys.length : Int)) = false := by simp [hn]
        have hcc : ((c : Int) != (xs.length : Int)) = true := by simp; omega
        clear he hn hc
        go_enter Try.func17, Try.ntmps17
        go_wp2_with fail
        go_ret
        exact ⟨ret_bool HF.out.symm, Below.refl _ _⟩
    · have HF := Lib.hid (sameB_f (xs := xs) (ys := ys) (c := c) (e := e) (f := f) (fun h => hn (by rw [h.2.2])))
      have hee : (e != f) = false := by simpa using he
      have hnn : ((xs.length : Int) != (ys.length : Int)) = true := by simp; omega
      clear he hn
      go_enter Try.func17, Try.ntmps17
      go_wp2_with fail
      go_ret
      exact ⟨ret_bool HF.out.symm, Below.refl _ _⟩
  · have HF := Lib.hid (sameB_f (xs := xs) (ys := ys) (c := c) (e := e) (f := f) (fun h => he h.1))
    have hee : (e != f) = true := by simpa using he
    clear he
    go_enter Try.func17, Try.ntmps17
    go_wp2_with fail
    go_ret
    exact ⟨ret_bool HF.out.symm, Below.refl _ _⟩
end Go.Proofs.Ytbkfebnggomhdaa
