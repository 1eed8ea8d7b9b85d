/-
  No cell of these rows narrows 'for every input' (looked for: loops, veiled, ifaces, maps, wideKeys, modest, calm, conditions, laid).
  DERIVED. THE GIVEN ROWS OF THIS SEAT. 6 by the template 'for every input the law returns true; each argument reads behind the call as it read before'; 0 by the template 'total and deterministic' (their statements: YtedekcphgcmlnaaTotals.lean).
  GIVEN WITH THE SEED: the statements are not yours to turn. If you find one false, say at which input.
  Laid BY PROGRAM, IN A SANDBOX (cutbox-rows.mjs): the forced cells as the released guide's own fill.sh prints them over the translation 4c0e9d4117a2b5fd… (all of the seat's roots in one cut). By AI agents, Wed Nov 11 2026. No macro, syntax, notation, axiom, sorry.
-/
import Derived.Test.YtedekcphgcmlnaaChecked
import GoSem.Claim
import GoSem.ClaimJoined
import GoSem.ClaimMapViews
import Derived.JoinedTies
import Derived.KernelRfl
namespace Go.Proofs.Ytedekcphgcmlnaa
/- THE CELL 'sum', in the pinned program and in every row, IS THE sha256 OF THE DUMP (.gsa) THAT YtedekcphgcmlnaaProg.lean LOADS. Nothing in Lean hashes anything: it is a label: what it is worth is what the hold of that sum in a sandbox is worth. -/
noncomputable def Try.pinned : Pinned := { name := "ytedekcphgcmlnaa", sum := "4c0e9d4117a2b5fd9dd67f02a972cb7d4155e7782cb4d63579ae2a832f2a44b7", checked := Try.checked }
namespace Rows
def none {H : Type} : Left H := { results := [], args := [] }

/-- 'paternosterlaw07.KeymapsScript': WHATEVER THE INPUT: true; the input reads as it did. -/
def keymapsScriptSpec : ChangeSpec := { name := "keymapsScript", fn := fun _ => fun
  | [d] => { results := [.lit (.bool true)], args := [d] }
  | _ => none }
def keymapsScriptRow : OpenClaim := { program := "ytedekcphgcmlnaa", sum := "4c0e9d4117a2b5fd9dd67f02a972cb7d4155e7782cb4d63579ae2a832f2a44b7", func := "paternoster/paternosterlaw07.KeymapsScript", spec := "keymapsScript", recurses := true, apart := false }
def KeymapsScriptSaid : Prop := keymapsScriptRow.holds Try.pinned (OpenSpec.ofChange keymapsScriptSpec)

/-- ITS FALSE NEIGHBOUR: 'it returns false'. Refute it at one input. -/
def keymapsScriptWrong : ChangeSpec := { name := "keymapsScript", fn := fun _ => fun
  | [d] => { results := [.lit (.bool false)], args := [d] }
  | _ => none }
def KeymapsScriptWrongFalsely : Prop := keymapsScriptRow.holds Try.pinned (OpenSpec.ofChange keymapsScriptWrong)

/-- 'paternosterlaw07.KeymapsGet': WHATEVER THE INPUT: true; the input reads as it did. -/
def keymapsGetSpec : ChangeSpec := { name := "keymapsGet", fn := fun _ => fun
  | [d1, d2] => { results := [.lit (.bool true)], args := [d1, d2] }
  | _ => none }
def keymapsGetRow : OpenClaim := { program := "ytedekcphgcmlnaa", sum := "4c0e9d4117a2b5fd9dd67f02a972cb7d4155e7782cb4d63579ae2a832f2a44b7", func := "paternoster/paternosterlaw07.KeymapsGet", spec := "keymapsGet", recurses := true, apart := false }
def KeymapsGetSaid : Prop := keymapsGetRow.holds Try.pinned (OpenSpec.ofChange keymapsGetSpec)

/-- ITS FALSE NEIGHBOUR: 'it returns false'. Refute it at one input. -/
def keymapsGetWrong : ChangeSpec := { name := "keymapsGet", fn := fun _ => fun
  | [d1, d2] => { results := [.lit (.bool false)], args := [d1, d2] }
  | _ => none }
def KeymapsGetWrongFalsely : Prop := keymapsGetRow.holds Try.pinned (OpenSpec.ofChange keymapsGetWrong)

/-- 'paternosterlaw07.KeymapsOwn': WHATEVER THE INPUT: true; the input reads as it did. -/
def keymapsOwnSpec : ChangeSpec := { name := "keymapsOwn", fn := fun _ => fun
  | [d1, d2] => { results := [.lit (.bool true)], args := [d1, d2] }
  | _ => none }
def keymapsOwnRow : OpenClaim := { program := "ytedekcphgcmlnaa", sum := "4c0e9d4117a2b5fd9dd67f02a972cb7d4155e7782cb4d63579ae2a832f2a44b7", func := "paternoster/paternosterlaw07.KeymapsOwn", spec := "keymapsOwn", recurses := true, apart := false }
def KeymapsOwnSaid : Prop := keymapsOwnRow.holds Try.pinned (OpenSpec.ofChange keymapsOwnSpec)

/-- ITS FALSE NEIGHBOUR: 'it returns false'. Refute it at one input. -/
def keymapsOwnWrong : ChangeSpec := { name := "keymapsOwn", fn := fun _ => fun
  | [d1, d2] => { results := [.lit (.bool false)], args := [d1, d2] }
  | _ => none }
def KeymapsOwnWrongFalsely : Prop := keymapsOwnRow.holds Try.pinned (OpenSpec.ofChange keymapsOwnWrong)

/-- 'paternosterlaw07.KeymapsOrder': WHATEVER THE INPUT: true; the input reads as it did. -/
def keymapsOrderSpec : ChangeSpec := { name := "keymapsOrder", fn := fun _ => fun
  | [d1, d2] => { results := [.lit (.bool true)], args := [d1, d2] }
  | _ => none }
def keymapsOrderRow : OpenClaim := { program := "ytedekcphgcmlnaa", sum := "4c0e9d4117a2b5fd9dd67f02a972cb7d4155e7782cb4d63579ae2a832f2a44b7", func := "paternoster/paternosterlaw07.KeymapsOrder", spec := "keymapsOrder", recurses := true, apart := false }
def KeymapsOrderSaid : Prop := keymapsOrderRow.holds Try.pinned (OpenSpec.ofChange keymapsOrderSpec)

/-- ITS FALSE NEIGHBOUR: 'it returns false'. Refute it at one input. -/
def keymapsOrderWrong : ChangeSpec := { name := "keymapsOrder", fn := fun _ => fun
  | [d1, d2] => { results := [.lit (.bool false)], args := [d1, d2] }
  | _ => none }
def KeymapsOrderWrongFalsely : Prop := keymapsOrderRow.holds Try.pinned (OpenSpec.ofChange keymapsOrderWrong)

/-- 'paternosterlaw07.KeymapsNil': WHATEVER THE INPUT: true; the input reads as it did. -/
def keymapsNilSpec : ChangeSpec := { name := "keymapsNil", fn := fun _ => fun
  | [d1, d2] => { results := [.lit (.bool true)], args := [d1, d2] }
  | _ => none }
def keymapsNilRow : OpenClaim := { program := "ytedekcphgcmlnaa", sum := "4c0e9d4117a2b5fd9dd67f02a972cb7d4155e7782cb4d63579ae2a832f2a44b7", func := "paternoster/paternosterlaw07.KeymapsNil", spec := "keymapsNil", recurses := true, apart := false }
def KeymapsNilSaid : Prop := keymapsNilRow.holds Try.pinned (OpenSpec.ofChange keymapsNilSpec)

/-- ITS FALSE NEIGHBOUR: 'it returns false'. Refute it at one input. -/
def keymapsNilWrong : ChangeSpec := { name := "keymapsNil", fn := fun _ => fun
  | [d1, d2] => { results := [.lit (.bool false)], args := [d1, d2] }
  | _ => none }
def KeymapsNilWrongFalsely : Prop := keymapsNilRow.holds Try.pinned (OpenSpec.ofChange keymapsNilWrong)

/-- 'paternosterlaw07.KeymapsKnown': WHATEVER THE INPUT: true; the input reads as it did. -/
def keymapsKnownSpec : ChangeSpec := { name := "keymapsKnown", fn := fun _ => fun
  | [] => { results := [.lit (.bool true)], args := [] }
  | _ => none }
def keymapsKnownRow : OpenClaim := { program := "ytedekcphgcmlnaa", sum := "4c0e9d4117a2b5fd9dd67f02a972cb7d4155e7782cb4d63579ae2a832f2a44b7", func := "paternoster/paternosterlaw07.KeymapsKnown", spec := "keymapsKnown", recurses := true, apart := false }
def KeymapsKnownSaid : Prop := keymapsKnownRow.holds Try.pinned (OpenSpec.ofChange keymapsKnownSpec)

/-- ITS FALSE NEIGHBOUR: 'it returns false'. Refute it at one input. -/
def keymapsKnownWrong : ChangeSpec := { name := "keymapsKnown", fn := fun _ => fun
  | [] => { results := [.lit (.bool false)], args := [] }
  | _ => none }
def KeymapsKnownWrongFalsely : Prop := keymapsKnownRow.holds Try.pinned (OpenSpec.ofChange keymapsKnownWrong)

/- THE SECOND FORM. 'bulk': how many values and letters a reading holds, each counted each time it is reached (what is shared counts as often as it is met; a slice's spare places count too). A statement '..UptoSaid' is the law's where the arguments, and the package variables that the reading takes, are together of bulk at most 1048576: NARROWER than '..Said'. Prove '..Said' where nothing that the law and all that it calls make is longer than what came in: it says more and counts as full. Else prove '..UptoSaid'. A law counts once. -/
mutual
def uptoBulk {H : Type} : DataW H → Nat
  | .lit (.string bytes) => bytes.length + 1
  | .lit _ => 1
  | .nil => 1
  | .ptr d => uptoBulk d + 1
  | .slice elems spare => uptoBulkAll elems + uptoBulkAll spare + 1
  | .agg parts => uptoBulkAll parts + 1
  | .iface _ d => uptoBulk d + 1
  | .map entries => uptoBulkEntries entries + 1
  | .held _ => 1
def uptoBulkAll {H : Type} : List (DataW H) → Nat
  | [] => 0
  | d :: r => uptoBulk d + uptoBulkAll r
def uptoBulkEntries {H : Type} : List (Lit × DataW H) → Nat
  | [] => 0
  | x :: r => uptoBulkEntry x + uptoBulkEntries r
def uptoBulkEntry {H : Type} : Lit × DataW H → Nat
  | (.string bytes, d) => bytes.length + uptoBulk d + 1
  | (_, d) => uptoBulk d + 1
 end
def uptoSmall : (H : Type) → List (DataW H) → Bool := fun _ ds => decide (uptoBulkAll ds ≤ 1048576)
def OpenSpec.upto (s : _root_.Go.ChangeSpec) : _root_.Go.OpenSpec := { _root_.Go.OpenSpec.ofChange s with cond := some uptoSmall }

/-- 'paternosterlaw07.KeymapsScript', WHERE WHAT IT READS IS OF BULK AT MOST 1048576: true; the input reads as it did. -/
def keymapsScriptUptoRow : OpenClaim := { program := "ytedekcphgcmlnaa", sum := "4c0e9d4117a2b5fd9dd67f02a972cb7d4155e7782cb4d63579ae2a832f2a44b7", func := "paternoster/paternosterlaw07.KeymapsScript", spec := "keymapsScript", recurses := true, apart := false, narrowed := true }
def KeymapsScriptUptoSaid : Prop := keymapsScriptUptoRow.holds Try.pinned (OpenSpec.upto keymapsScriptSpec)

/-- 'paternosterlaw07.KeymapsGet', WHERE WHAT IT READS IS OF BULK AT MOST 1048576: true; the input reads as it did. -/
def keymapsGetUptoRow : OpenClaim := { program := "ytedekcphgcmlnaa", sum := "4c0e9d4117a2b5fd9dd67f02a972cb7d4155e7782cb4d63579ae2a832f2a44b7", func := "paternoster/paternosterlaw07.KeymapsGet", spec := "keymapsGet", recurses := true, apart := false, narrowed := true }
def KeymapsGetUptoSaid : Prop := keymapsGetUptoRow.holds Try.pinned (OpenSpec.upto keymapsGetSpec)

/-- 'paternosterlaw07.KeymapsOwn', WHERE WHAT IT READS IS OF BULK AT MOST 1048576: true; the input reads as it did. -/
def keymapsOwnUptoRow : OpenClaim := { program := "ytedekcphgcmlnaa", sum := "4c0e9d4117a2b5fd9dd67f02a972cb7d4155e7782cb4d63579ae2a832f2a44b7", func := "paternoster/paternosterlaw07.KeymapsOwn", spec := "keymapsOwn", recurses := true, apart := false, narrowed := true }
def KeymapsOwnUptoSaid : Prop := keymapsOwnUptoRow.holds Try.pinned (OpenSpec.upto keymapsOwnSpec)

/-- 'paternosterlaw07.KeymapsOrder', WHERE WHAT IT READS IS OF BULK AT MOST 1048576: true; the input reads as it did. -/
def keymapsOrderUptoRow : OpenClaim := { program := "ytedekcphgcmlnaa", sum := "4c0e9d4117a2b5fd9dd67f02a972cb7d4155e7782cb4d63579ae2a832f2a44b7", func := "paternoster/paternosterlaw07.KeymapsOrder", spec := "keymapsOrder", recurses := true, apart := false, narrowed := true }
def KeymapsOrderUptoSaid : Prop := keymapsOrderUptoRow.holds Try.pinned (OpenSpec.upto keymapsOrderSpec)

/-- 'paternosterlaw07.KeymapsNil', WHERE WHAT IT READS IS OF BULK AT MOST 1048576: true; the input reads as it did. -/
def keymapsNilUptoRow : OpenClaim := { program := "ytedekcphgcmlnaa", sum := "4c0e9d4117a2b5fd9dd67f02a972cb7d4155e7782cb4d63579ae2a832f2a44b7", func := "paternoster/paternosterlaw07.KeymapsNil", spec := "keymapsNil", recurses := true, apart := false, narrowed := true }
def KeymapsNilUptoSaid : Prop := keymapsNilUptoRow.holds Try.pinned (OpenSpec.upto keymapsNilSpec)

/-- 'paternosterlaw07.KeymapsKnown', WHERE WHAT IT READS IS OF BULK AT MOST 1048576: true; the input reads as it did. -/
def keymapsKnownUptoRow : OpenClaim := { program := "ytedekcphgcmlnaa", sum := "4c0e9d4117a2b5fd9dd67f02a972cb7d4155e7782cb4d63579ae2a832f2a44b7", func := "paternoster/paternosterlaw07.KeymapsKnown", spec := "keymapsKnown", recurses := true, apart := false, narrowed := true }
def KeymapsKnownUptoSaid : Prop := keymapsKnownUptoRow.holds Try.pinned (OpenSpec.upto keymapsKnownSpec)

end Rows
end Go.Proofs.Ytedekcphgcmlnaa
