/- The three operations, insertions and removals, as whole contracts. -/
import Derived.Test.YtbkfebnggomhdaaComb35
import Derived.Test.YtbkfebnggomhdaaComb36
import Derived.Test.YtbkfebnggomhdaaComb37
import Derived.Test.YtbkfebnggomhdaaRemW
import Derived.Test.YtbkfebnggomhdaaInsW
import Derived.Test.YtbkfebnggomhdaaOfW
namespace Go.Proofs.Ytbkfebnggomhdaa
open Go.RowKit

/-- a set, or the error c -/
def OpRes (c : Int) (m : Int → Bool) (e : Ending) (w' : World) : Prop :=
  (c = 0 ∧ SetRes m e w') ∨ (c ≠ 0 ∧ e = .returned (.tuple #[.slice none 0 0, .int .i64 c]))
def chk2 (xa xb : List Sp) : Int := if chk xa = 0 then chk xb else chk xa

theorem kor (x y : Bool) (w : World) : Calls Try.prog 35 #[.bool x, .bool y] w fun e w' => e = .returned (.bool (x || y)) ∧ w = w' := by
  cases x <;> cases y <;> (go_enter Try.func35, Try.ntmps35; go_wp2; go_ret; exact ⟨rfl, rfl⟩)
theorem kand (x y : Bool) (w : World) : Calls Try.prog 36 #[.bool x, .bool y] w fun e w' => e = .returned (.bool (x && y)) ∧ w = w' := by
  cases x <;> cases y <;> (go_enter Try.func36, Try.ntmps36; go_wp2; go_ret; exact ⟨rfl, rfl⟩)
theorem knot (x y : Bool) (w : World) : Calls Try.prog 37 #[.bool x, .bool y] w fun e w' => e = .returned (.bool (x && !y)) ∧ w = w' := by
  cases x <;> cases y <;> (go_enter Try.func37, Try.ntmps37; go_wp2; go_ret; exact ⟨rfl, rfl⟩)

set_option maxRecDepth 100000 in
set_option maxHeartbeats 1000000 in
theorem comb_ea (fv : Value) (Aa Ab : Option Addr) (ca cb : Nat) (xa xb : List Sp) (w : World) (hra : Rd w w.heap.size Aa xa) (hla : xa.length ≤ 2000000000) (ha : chk xa ≠ 0) :
    Calls Try.prog 34 #[.slice Aa xa.length ca, .slice Ab xb.length cb, fv] w fun e w' => e = .returned (.tuple #[.slice none 0 0, .int .i64 (chk xa)]) ∧ Below w.heap.size w w' := by
  have h0a : (chk xa != 0) = true := by simpa using ha
  clear ha
  go_enter Try.func34, Try.ntmps34
  go_wp2_with fail
  go_step3
  go_wp2_with fail
  refine (check_any _ _ _ _ hra (by omega)).mono ?_
  rintro e w1 ⟨rfl, hb1⟩
  go_wp2_with fail
  try rw [Exit.noGoto_ret]
  go_ret2
  exact ⟨rfl, hb1⟩
set_option maxRecDepth 100000 in
set_option maxHeartbeats 1000000 in
theorem comb_eb (fv : Value) (Aa Ab : Option Addr) (ca cb : Nat) (xa xb : List Sp) (w : World) (hra : Rd w w.heap.size Aa xa) (hrb : Rd w w.heap.size Ab xb) (hla : xa.length ≤ 2000000000) (hlb : xb.length ≤ 2000000000) (ha : chk xa = 0) (hb : chk xb ≠ 0) :
    Calls Try.prog 34 #[.slice Aa xa.length ca, .slice Ab xb.length cb, fv] w fun e w' => e = .returned (.tuple #[.slice none 0 0, .int .i64 (chk xb)]) ∧ Below w.heap.size w w' := by
  have h0a : (chk xa != 0) = false := by rw [ha]; rfl
  have h0b : (chk xb != 0) = true := by simpa using hb
  clear ha hb
  go_enter Try.func34, Try.ntmps34
  go_wp2_with fail
  go_step3
  go_wp2_with fail
  refine (check_any _ _ _ _ hra (by omega)).mono ?_
  rintro e w1 ⟨rfl, hb1⟩
  go_wp2_with fail
  refine (check_any _ _ _ _ ((hrb.below hb1).more hb1.size) (by omega)).mono ?_
  rintro e w2 ⟨rfl, hb2⟩
  go_wp2_with fail
  try rw [Exit.noGoto_ret]
  go_ret2
  exact ⟨rfl, hb1.trans (hb2.mono hb1.size)⟩

/-- the contract of an operation on two sets -/
def OpSaid (f : Nat) (keep : Bool → Bool → Bool) : Prop :=
  ∀ (Aa Ab : Option Addr) (ca cb : Nat) (xa xb : List Sp) (w : World), Rd w w.heap.size Aa xa → Rd w w.heap.size Ab xb → xa.length ≤ 2000000000 → xb.length ≤ 2000000000 → xa.length ≤ ca → xb.length ≤ cb →
    Calls Try.prog f #[.slice Aa xa.length ca, .slice Ab xb.length cb] w fun e w' => OpRes (chk2 xa xb) (fun i => keep (hasB xa i) (hasB xb i)) e w' ∧ Below w.heap.size w w'
theorem comb_any (fv : Value) (keep : Bool → Bool → Bool)
    (H : ∀ (Aa Ab : Option Addr) (ca cb : Nat) (xa xb : List Sp) (w : World), Rd w w.heap.size Aa xa → Rd w w.heap.size Ab xb → chk xa = 0 → chk xb = 0 → xa.length ≤ ca → xb.length ≤ cb →
      Calls Try.prog 34 #[.slice Aa xa.length ca, .slice Ab xb.length cb, fv] w fun e w' => SetRes (fun i => keep (hasB xa i) (hasB xb i)) e w' ∧ Below w.heap.size w w')
    (Aa Ab : Option Addr) (ca cb : Nat) (xa xb : List Sp) (w : World) (hra : Rd w w.heap.size Aa xa) (hrb : Rd w w.heap.size Ab xb) (hla : xa.length ≤ 2000000000) (hlb : xb.length ≤ 2000000000) (hca : xa.length ≤ ca) (hcb : xb.length ≤ cb) :
    Calls Try.prog 34 #[.slice Aa xa.length ca, .slice Ab xb.length cb, fv] w fun e w' => OpRes (chk2 xa xb) (fun i => keep (hasB xa i) (hasB xb i)) e w' ∧ Below w.heap.size w w' := by
  unfold chk2
  by_cases ha : chk xa = 0
  · rw [if_pos ha]
    by_cases hb : chk xb = 0
    · exact (H Aa Ab ca cb xa xb w hra hrb ha hb hca hcb).mono fun e w' ⟨h1, h2⟩ => ⟨.inl ⟨hb, h1⟩, h2⟩
    · exact (comb_eb fv Aa Ab ca cb xa xb w hra hrb hla hlb ha hb).mono fun e w' ⟨h1, h2⟩ => ⟨.inr ⟨hb, h1⟩, h2⟩
  · rw [if_neg ha]
    exact (comb_ea fv Aa Ab ca cb xa xb w hra hla ha).mono fun e w' ⟨h1, h2⟩ => ⟨.inr ⟨ha, h1⟩, h2⟩
theorem OpRes.cases {c : Int} {m : Int → Bool} {e : Ending} {w' : World} (h : OpRes c m e w') : ∃ (A : Option Addr) (n : Nat) (k : Int), e = .returned (.tuple #[.slice A n n, .int .i64 k]) := by
  rcases h with ⟨_, out, _, _, ⟨_, A, rfl, _⟩ | ⟨_, rfl⟩⟩ | ⟨_, rfl⟩
  · exact ⟨A, _, _, rfl⟩
  · exact ⟨none, 0, _, rfl⟩
  · exact ⟨none, 0, _, rfl⟩

theorem union_any : OpSaid 20 (fun x y => x || y) := by
  intro Aa Ab ca cb xa xb w hra hrb hla hlb hca hcb
  have hc := Lib.hid (comb_any (.func (.func 35) #[] #[]) _ (comb35 _ rfl kor) Aa Ab ca cb xa xb w hra hrb hla hlb hca hcb)
  go_enter Try.func20, Try.ntmps20
  go_wp2_with fail
  refine hc.out.mono ?_
  rintro e w1 ⟨hres, hb⟩
  obtain ⟨A, n, k, rfl⟩ := hres.cases
  have HR := Lib.hid hres; clear hres
  go_wp2_with fail
  go_ret2
  exact ⟨HR.out, hb⟩
theorem common_any : OpSaid 21 (fun x y => x && y) := by
  intro Aa Ab ca cb xa xb w hra hrb hla hlb hca hcb
  have hc := Lib.hid (comb_any (.func (.func 36) #[] #[]) _ (comb36 _ rfl kand) Aa Ab ca cb xa xb w hra hrb hla hlb hca hcb)
  go_enter Try.func21, Try.ntmps21
  go_wp2_with fail
  refine hc.out.mono ?_
  rintro e w1 ⟨hres, hb⟩
  obtain ⟨A, n, k, rfl⟩ := hres.cases
  have HR := Lib.hid hres; clear hres
  go_wp2_with fail
  go_ret2
  exact ⟨HR.out, hb⟩
theorem without_any : OpSaid 22 (fun x y => x && !y) := by
  intro Aa Ab ca cb xa xb w hra hrb hla hlb hca hcb
  have hc := Lib.hid (comb_any (.func (.func 37) #[] #[]) _ (comb37 _ rfl knot) Aa Ab ca cb xa xb w hra hrb hla hlb hca hcb)
  go_enter Try.func22, Try.ntmps22
  go_wp2_with fail
  refine hc.out.mono ?_
  rintro e w1 ⟨hres, hb⟩
  obtain ⟨A, n, k, rfl⟩ := hres.cases
  have HR := Lib.hid hres; clear hres
  go_wp2_with fail
  go_ret2
  exact ⟨HR.out, hb⟩
end Go.Proofs.Ytbkfebnggomhdaa
