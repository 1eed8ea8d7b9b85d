/- Unions, differences, insertions and removals of the set of known rows. -/
import Derived.Test.YtdejdnkkbpmmlaaMSComb35
import Derived.Test.YtdejdnkkbpmmlaaMSComb37
import Derived.Test.YtdejdnkkbpmmlaaMSInsW
namespace Go.Proofs.Ytdejdnkkbpmmlaa.S
open Go.RowKit

theorem kor (x y : Bool) (w : World) : Calls Try.prog 62 #[.bool x, .bool y] w fun e w' => e = .returned (.bool (x || y)) ∧ w = w' := by
  cases x <;> cases y <;> (go_enter Try.func62, Try.ntmps62; go_wp2; go_ret; exact ⟨rfl, rfl⟩)
theorem knot (x y : Bool) (w : World) : Calls Try.prog 69 #[.bool x, .bool y] w fun e w' => e = .returned (.bool (x && !y)) ∧ w = w' := by
  cases x <;> cases y <;> (go_enter Try.func69, Try.ntmps69; go_wp2; go_ret; exact ⟨rfl, rfl⟩)
theorem SetRes.cases {B : Nat} {m : Int → Bool} {e : Ending} {w' : World} (h : SetRes B m e w') : ∃ (A : Option Addr) (n : Nat) (k : Int), e = .returned (.tuple #[.slice A n n, .int .i64 k]) := by
  obtain ⟨out, _, _, ⟨_, A, rfl, _⟩ | ⟨_, rfl⟩⟩ := h
  · exact ⟨A, _, _, rfl⟩
  · exact ⟨none, 0, _, rfl⟩
set_option maxRecDepth 100000 in
theorem union_ok (Aa Ab : Option Addr) (ca cb : Nat) (xa xb : List Sp) (w : World) (hra : Rd w w.heap.size Aa xa) (hrb : Rd w w.heap.size Ab xb) (ha : chk xa = 0) (hb : chk xb = 0) (hca : xa.length ≤ ca) (hcb : xb.length ≤ cb) :
    Calls Try.prog 44 #[.slice Aa xa.length ca, .slice Ab xb.length cb] w fun e w' => SetRes w.heap.size (fun i => hasB xa i || hasB xb i) e w' ∧ Below w.heap.size w w' := by
  have hc := Lib.hid (comb35 _ rfl kor Aa Ab ca cb xa xb w hra hrb ha hb hca hcb)
  go_enter Try.func44, Try.ntmps44
  go_wp2_with fail
  refine hc.out.mono ?_
  rintro e w1 ⟨hres, hb⟩
  obtain ⟨A, n, k, rfl⟩ := hres.cases
  have HR := Lib.hid hres; clear hres
  go_wp2_with fail
  go_ret2
  exact ⟨HR.out, hb⟩
set_option maxRecDepth 100000 in
theorem without_ok (Aa Ab : Option Addr) (ca cb : Nat) (xa xb : List Sp) (w : World) (hra : Rd w w.heap.size Aa xa) (hrb : Rd w w.heap.size Ab xb) (ha : chk xa = 0) (hb : chk xb = 0) (hca : xa.length ≤ ca) (hcb : xb.length ≤ cb) :
    Calls Try.prog 58 #[.slice Aa xa.length ca, .slice Ab xb.length cb] w fun e w' => SetRes w.heap.size (fun i => hasB xa i && !hasB xb i) e w' ∧ Below w.heap.size w w' := by
  have hc := Lib.hid (comb37 _ rfl knot Aa Ab ca cb xa xb w hra hrb ha hb hca hcb)
  go_enter Try.func58, Try.ntmps58
  go_wp2_with fail
  refine hc.out.mono ?_
  rintro e w1 ⟨hres, hb⟩
  obtain ⟨A, n, k, rfl⟩ := hres.cases
  have HR := Lib.hid hres; clear hres
  go_wp2_with fail
  go_ret2
  exact ⟨HR.out, hb⟩
end Go.Proofs.Ytdejdnkkbpmmlaa.S
