/-
  No cell of these rows narrows 'for every input' (looked for: loops, veiled, ifaces, maps, wideKeys, modest, calm, conditions, laid).
  DERIVED. THE GIVEN ROWS OF THIS SEAT. 8 by the template 'for every input the law returns true; each argument reads behind the call as it read before'; 0 by the template 'total and deterministic' (their statements: YtijbecjkldaddabTotals.lean).
  GIVEN WITH THE SEED: the statements are not yours to turn. If you find one false, say at which input.
  Laid BY PROGRAM, IN A SANDBOX (cutbox-rows.mjs): the forced cells as the released guide's own fill.sh prints them over the translation 431aa31e297ec072… (all of the seat's roots in one cut). By AI agents, Wed Nov 11 2026. No macro, syntax, notation, axiom, sorry.
-/
import Derived.Test.YtijbecjkldaddabChecked
import GoSem.Claim
import GoSem.ClaimJoined
import GoSem.ClaimMapViews
import Derived.JoinedTies
import Derived.KernelRfl
namespace Go.Proofs.Ytijbecjkldaddab
/- THE CELL 'sum', in the pinned program and in every row, IS THE sha256 OF THE DUMP (.gsa) THAT YtijbecjkldaddabProg.lean LOADS. Nothing in Lean hashes anything: it is a label: what it is worth is what the hold of that sum in a sandbox is worth. -/
noncomputable def Try.pinned : Pinned := { name := "ytijbecjkldaddab", sum := "431aa31e297ec072e0ba2568d374e5fc9600fbb965f687617af537d0e8f65b81", checked := Try.checked }
namespace Rows
def none {H : Type} : Left H := { results := [], args := [] }

/-- 'laws.FnExactPowerMatrix': WHATEVER THE INPUT: true; the input reads as it did. -/
def fnExactPowerMatrixSpec : ChangeSpec := { name := "fnExactPowerMatrix", fn := fun _ => fun
  | [d1, d2] => { results := [.lit (.bool true)], args := [d1, d2] }
  | _ => none }
def fnExactPowerMatrixRow : OpenClaim := { program := "ytijbecjkldaddab", sum := "431aa31e297ec072e0ba2568d374e5fc9600fbb965f687617af537d0e8f65b81", func := "loop.example/g01132/laws.FnExactPowerMatrix", spec := "fnExactPowerMatrix", unfollowed := true, recurses := true, leaving := true, apart := false }
def FnExactPowerMatrixSaid : Prop := fnExactPowerMatrixRow.holds Try.pinned (OpenSpec.ofChange fnExactPowerMatrixSpec)

/-- ITS FALSE NEIGHBOUR: 'it returns false'. Refute it at one input. -/
def fnExactPowerMatrixWrong : ChangeSpec := { name := "fnExactPowerMatrix", fn := fun _ => fun
  | [d1, d2] => { results := [.lit (.bool false)], args := [d1, d2] }
  | _ => none }
def FnExactPowerMatrixWrongFalsely : Prop := fnExactPowerMatrixRow.holds Try.pinned (OpenSpec.ofChange fnExactPowerMatrixWrong)

/-- 'laws.FnExactSpanBasis': WHATEVER THE INPUT: true; the input reads as it did. -/
def fnExactSpanBasisSpec : ChangeSpec := { name := "fnExactSpanBasis", fn := fun _ => fun
  | [d] => { results := [.lit (.bool true)], args := [d] }
  | _ => none }
def fnExactSpanBasisRow : OpenClaim := { program := "ytijbecjkldaddab", sum := "431aa31e297ec072e0ba2568d374e5fc9600fbb965f687617af537d0e8f65b81", func := "loop.example/g01132/laws.FnExactSpanBasis", spec := "fnExactSpanBasis", unfollowed := true, recurses := true, leaving := true, apart := false }
def FnExactSpanBasisSaid : Prop := fnExactSpanBasisRow.holds Try.pinned (OpenSpec.ofChange fnExactSpanBasisSpec)

/-- ITS FALSE NEIGHBOUR: 'it returns false'. Refute it at one input. -/
def fnExactSpanBasisWrong : ChangeSpec := { name := "fnExactSpanBasis", fn := fun _ => fun
  | [d] => { results := [.lit (.bool false)], args := [d] }
  | _ => none }
def FnExactSpanBasisWrongFalsely : Prop := fnExactSpanBasisRow.holds Try.pinned (OpenSpec.ofChange fnExactSpanBasisWrong)

/-- 'laws.FnExactKernelBasis': WHATEVER THE INPUT: true; the input reads as it did. -/
def fnExactKernelBasisSpec : ChangeSpec := { name := "fnExactKernelBasis", fn := fun _ => fun
  | [d] => { results := [.lit (.bool true)], args := [d] }
  | _ => none }
def fnExactKernelBasisRow : OpenClaim := { program := "ytijbecjkldaddab", sum := "431aa31e297ec072e0ba2568d374e5fc9600fbb965f687617af537d0e8f65b81", func := "loop.example/g01132/laws.FnExactKernelBasis", spec := "fnExactKernelBasis", unfollowed := true, recurses := true, leaving := true, apart := false }
def FnExactKernelBasisSaid : Prop := fnExactKernelBasisRow.holds Try.pinned (OpenSpec.ofChange fnExactKernelBasisSpec)

/-- ITS FALSE NEIGHBOUR: 'it returns false'. Refute it at one input. -/
def fnExactKernelBasisWrong : ChangeSpec := { name := "fnExactKernelBasis", fn := fun _ => fun
  | [d] => { results := [.lit (.bool false)], args := [d] }
  | _ => none }
def FnExactKernelBasisWrongFalsely : Prop := fnExactKernelBasisRow.holds Try.pinned (OpenSpec.ofChange fnExactKernelBasisWrong)

/-- 'laws.FnExactCharacteristicPolynomial': WHATEVER THE INPUT: true; the input reads as it did. -/
def fnExactCharacteristicPolynomialSpec : ChangeSpec := { name := "fnExactCharacteristicPolynomial", fn := fun _ => fun
  | [d] => { results := [.lit (.bool true)], args := [d] }
  | _ => none }
def fnExactCharacteristicPolynomialRow : OpenClaim := { program := "ytijbecjkldaddab", sum := "431aa31e297ec072e0ba2568d374e5fc9600fbb965f687617af537d0e8f65b81", func := "loop.example/g01132/laws.FnExactCharacteristicPolynomial", spec := "fnExactCharacteristicPolynomial", unfollowed := true, recurses := true, leaving := true, apart := false }
def FnExactCharacteristicPolynomialSaid : Prop := fnExactCharacteristicPolynomialRow.holds Try.pinned (OpenSpec.ofChange fnExactCharacteristicPolynomialSpec)

/-- ITS FALSE NEIGHBOUR: 'it returns false'. Refute it at one input. -/
def fnExactCharacteristicPolynomialWrong : ChangeSpec := { name := "fnExactCharacteristicPolynomial", fn := fun _ => fun
  | [d] => { results := [.lit (.bool false)], args := [d] }
  | _ => none }
def FnExactCharacteristicPolynomialWrongFalsely : Prop := fnExactCharacteristicPolynomialRow.holds Try.pinned (OpenSpec.ofChange fnExactCharacteristicPolynomialWrong)

/-- 'laws.FnExactEigenvaluesOf': WHATEVER THE INPUT: true; the input reads as it did. -/
def fnExactEigenvaluesOfSpec : ChangeSpec := { name := "fnExactEigenvaluesOf", fn := fun _ => fun
  | [d] => { results := [.lit (.bool true)], args := [d] }
  | _ => none }
def fnExactEigenvaluesOfRow : OpenClaim := { program := "ytijbecjkldaddab", sum := "431aa31e297ec072e0ba2568d374e5fc9600fbb965f687617af537d0e8f65b81", func := "loop.example/g01132/laws.FnExactEigenvaluesOf", spec := "fnExactEigenvaluesOf", unfollowed := true, recurses := true, leaving := true, apart := false }
def FnExactEigenvaluesOfSaid : Prop := fnExactEigenvaluesOfRow.holds Try.pinned (OpenSpec.ofChange fnExactEigenvaluesOfSpec)

/-- ITS FALSE NEIGHBOUR: 'it returns false'. Refute it at one input. -/
def fnExactEigenvaluesOfWrong : ChangeSpec := { name := "fnExactEigenvaluesOf", fn := fun _ => fun
  | [d] => { results := [.lit (.bool false)], args := [d] }
  | _ => none }
def FnExactEigenvaluesOfWrongFalsely : Prop := fnExactEigenvaluesOfRow.holds Try.pinned (OpenSpec.ofChange fnExactEigenvaluesOfWrong)

/-- 'laws.FnExactEigenspaceOf': WHATEVER THE INPUT: true; the input reads as it did. -/
def fnExactEigenspaceOfSpec : ChangeSpec := { name := "fnExactEigenspaceOf", fn := fun _ => fun
  | [d1, d2] => { results := [.lit (.bool true)], args := [d1, d2] }
  | _ => none }
def fnExactEigenspaceOfRow : OpenClaim := { program := "ytijbecjkldaddab", sum := "431aa31e297ec072e0ba2568d374e5fc9600fbb965f687617af537d0e8f65b81", func := "loop.example/g01132/laws.FnExactEigenspaceOf", spec := "fnExactEigenspaceOf", unfollowed := true, recurses := true, leaving := true, apart := false }
def FnExactEigenspaceOfSaid : Prop := fnExactEigenspaceOfRow.holds Try.pinned (OpenSpec.ofChange fnExactEigenspaceOfSpec)

/-- ITS FALSE NEIGHBOUR: 'it returns false'. Refute it at one input. -/
def fnExactEigenspaceOfWrong : ChangeSpec := { name := "fnExactEigenspaceOf", fn := fun _ => fun
  | [d1, d2] => { results := [.lit (.bool false)], args := [d1, d2] }
  | _ => none }
def FnExactEigenspaceOfWrongFalsely : Prop := fnExactEigenspaceOfRow.holds Try.pinned (OpenSpec.ofChange fnExactEigenspaceOfWrong)

/-- 'laws.FnExactIsDiagonalizable': WHATEVER THE INPUT: true; the input reads as it did. -/
def fnExactIsDiagonalizableSpec : ChangeSpec := { name := "fnExactIsDiagonalizable", fn := fun _ => fun
  | [d] => { results := [.lit (.bool true)], args := [d] }
  | _ => none }
def fnExactIsDiagonalizableRow : OpenClaim := { program := "ytijbecjkldaddab", sum := "431aa31e297ec072e0ba2568d374e5fc9600fbb965f687617af537d0e8f65b81", func := "loop.example/g01132/laws.FnExactIsDiagonalizable", spec := "fnExactIsDiagonalizable", unfollowed := true, recurses := true, leaving := true, apart := false }
def FnExactIsDiagonalizableSaid : Prop := fnExactIsDiagonalizableRow.holds Try.pinned (OpenSpec.ofChange fnExactIsDiagonalizableSpec)

/-- ITS FALSE NEIGHBOUR: 'it returns false'. Refute it at one input. -/
def fnExactIsDiagonalizableWrong : ChangeSpec := { name := "fnExactIsDiagonalizable", fn := fun _ => fun
  | [d] => { results := [.lit (.bool false)], args := [d] }
  | _ => none }
def FnExactIsDiagonalizableWrongFalsely : Prop := fnExactIsDiagonalizableRow.holds Try.pinned (OpenSpec.ofChange fnExactIsDiagonalizableWrong)

/-- 'laws.FnExactCommonSpace': WHATEVER THE INPUT: true; the input reads as it did. -/
def fnExactCommonSpaceSpec : ChangeSpec := { name := "fnExactCommonSpace", fn := fun _ => fun
  | [d1, d2] => { results := [.lit (.bool true)], args := [d1, d2] }
  | _ => none }
def fnExactCommonSpaceRow : OpenClaim := { program := "ytijbecjkldaddab", sum := "431aa31e297ec072e0ba2568d374e5fc9600fbb965f687617af537d0e8f65b81", func := "loop.example/g01132/laws.FnExactCommonSpace", spec := "fnExactCommonSpace", unfollowed := true, recurses := true, leaving := true, apart := false }
def FnExactCommonSpaceSaid : Prop := fnExactCommonSpaceRow.holds Try.pinned (OpenSpec.ofChange fnExactCommonSpaceSpec)

/-- ITS FALSE NEIGHBOUR: 'it returns false'. Refute it at one input. -/
def fnExactCommonSpaceWrong : ChangeSpec := { name := "fnExactCommonSpace", fn := fun _ => fun
  | [d1, d2] => { results := [.lit (.bool false)], args := [d1, d2] }
  | _ => none }
def FnExactCommonSpaceWrongFalsely : Prop := fnExactCommonSpaceRow.holds Try.pinned (OpenSpec.ofChange fnExactCommonSpaceWrong)

/- THE SECOND FORM. 'bulk': how many values and letters a reading holds, each counted each time it is reached (what is shared counts as often as it is met; a slice's spare places count too). A statement '..UptoSaid' is the law's where the arguments, and the package variables that the reading takes, are together of bulk at most 1048576: NARROWER than '..Said'. Prove '..Said' where nothing that the law and all that it calls make is longer than what came in: it says more and counts as full. Else prove '..UptoSaid'. A law counts once. -/
mutual
def uptoBulk {H : Type} : DataW H → Nat
  | .lit (.string bytes) => bytes.length + 1
  | .lit _ => 1
  | .nil => 1
  | .ptr d => uptoBulk d + 1
  | .slice elems spare => uptoBulkAll elems + uptoBulkAll spare + 1
  | .agg parts => uptoBulkAll parts + 1
  | .iface _ d => uptoBulk d + 1
  | .map entries => uptoBulkEntries entries + 1
  | .held _ => 1
def uptoBulkAll {H : Type} : List (DataW H) → Nat
  | [] => 0
  | d :: r => uptoBulk d + uptoBulkAll r
def uptoBulkEntries {H : Type} : List (Lit × DataW H) → Nat
  | [] => 0
  | x :: r => uptoBulkEntry x + uptoBulkEntries r
def uptoBulkEntry {H : Type} : Lit × DataW H → Nat
  | (.string bytes, d) => bytes.length + uptoBulk d + 1
  | (_, d) => uptoBulk d + 1
 end
def uptoSmall : (H : Type) → List (DataW H) → Bool := fun _ ds => decide (uptoBulkAll ds ≤ 1048576)
def OpenSpec.upto (s : _root_.Go.ChangeSpec) : _root_.Go.OpenSpec := { _root_.Go.OpenSpec.ofChange s with cond := some uptoSmall }

/-- 'laws.FnExactPowerMatrix', WHERE WHAT IT READS IS OF BULK AT MOST 1048576: true; the input reads as it did. -/
def fnExactPowerMatrixUptoRow : OpenClaim := { program := "ytijbecjkldaddab", sum := "431aa31e297ec072e0ba2568d374e5fc9600fbb965f687617af537d0e8f65b81", func := "loop.example/g01132/laws.FnExactPowerMatrix", spec := "fnExactPowerMatrix", unfollowed := true, recurses := true, leaving := true, apart := false, narrowed := true }
def FnExactPowerMatrixUptoSaid : Prop := fnExactPowerMatrixUptoRow.holds Try.pinned (OpenSpec.upto fnExactPowerMatrixSpec)

/-- 'laws.FnExactSpanBasis', WHERE WHAT IT READS IS OF BULK AT MOST 1048576: true; the input reads as it did. -/
def fnExactSpanBasisUptoRow : OpenClaim := { program := "ytijbecjkldaddab", sum := "431aa31e297ec072e0ba2568d374e5fc9600fbb965f687617af537d0e8f65b81", func := "loop.example/g01132/laws.FnExactSpanBasis", spec := "fnExactSpanBasis", unfollowed := true, recurses := true, leaving := true, apart := false, narrowed := true }
def FnExactSpanBasisUptoSaid : Prop := fnExactSpanBasisUptoRow.holds Try.pinned (OpenSpec.upto fnExactSpanBasisSpec)

/-- 'laws.FnExactKernelBasis', WHERE WHAT IT READS IS OF BULK AT MOST 1048576: true; the input reads as it did. -/
def fnExactKernelBasisUptoRow : OpenClaim := { program := "ytijbecjkldaddab", sum := "431aa31e297ec072e0ba2568d374e5fc9600fbb965f687617af537d0e8f65b81", func := "loop.example/g01132/laws.FnExactKernelBasis", spec := "fnExactKernelBasis", unfollowed := true, recurses := true, leaving := true, apart := false, narrowed := true }
def FnExactKernelBasisUptoSaid : Prop := fnExactKernelBasisUptoRow.holds Try.pinned (OpenSpec.upto fnExactKernelBasisSpec)

/-- 'laws.FnExactCharacteristicPolynomial', WHERE WHAT IT READS IS OF BULK AT MOST 1048576: true; the input reads as it did. -/
def fnExactCharacteristicPolynomialUptoRow : OpenClaim := { program := "ytijbecjkldaddab", sum := "431aa31e297ec072e0ba2568d374e5fc9600fbb965f687617af537d0e8f65b81", func := "loop.example/g01132/laws.FnExactCharacteristicPolynomial", spec := "fnExactCharacteristicPolynomial", unfollowed := true, recurses := true, leaving := true, apart := false, narrowed := true }
def FnExactCharacteristicPolynomialUptoSaid : Prop := fnExactCharacteristicPolynomialUptoRow.holds Try.pinned (OpenSpec.upto fnExactCharacteristicPolynomialSpec)

/-- 'laws.FnExactEigenvaluesOf', WHERE WHAT IT READS IS OF BULK AT MOST 1048576: true; the input reads as it did. -/
def fnExactEigenvaluesOfUptoRow : OpenClaim := { program := "ytijbecjkldaddab", sum := "431aa31e297ec072e0ba2568d374e5fc9600fbb965f687617af537d0e8f65b81", func := "loop.example/g01132/laws.FnExactEigenvaluesOf", spec := "fnExactEigenvaluesOf", unfollowed := true, recurses := true, leaving := true, apart := false, narrowed := true }
def FnExactEigenvaluesOfUptoSaid : Prop := fnExactEigenvaluesOfUptoRow.holds Try.pinned (OpenSpec.upto fnExactEigenvaluesOfSpec)

/-- 'laws.FnExactEigenspaceOf', WHERE WHAT IT READS IS OF BULK AT MOST 1048576: true; the input reads as it did. -/
def fnExactEigenspaceOfUptoRow : OpenClaim := { program := "ytijbecjkldaddab", sum := "431aa31e297ec072e0ba2568d374e5fc9600fbb965f687617af537d0e8f65b81", func := "loop.example/g01132/laws.FnExactEigenspaceOf", spec := "fnExactEigenspaceOf", unfollowed := true, recurses := true, leaving := true, apart := false, narrowed := true }
def FnExactEigenspaceOfUptoSaid : Prop := fnExactEigenspaceOfUptoRow.holds Try.pinned (OpenSpec.upto fnExactEigenspaceOfSpec)

/-- 'laws.FnExactIsDiagonalizable', WHERE WHAT IT READS IS OF BULK AT MOST 1048576: true; the input reads as it did. -/
def fnExactIsDiagonalizableUptoRow : OpenClaim := { program := "ytijbecjkldaddab", sum := "431aa31e297ec072e0ba2568d374e5fc9600fbb965f687617af537d0e8f65b81", func := "loop.example/g01132/laws.FnExactIsDiagonalizable", spec := "fnExactIsDiagonalizable", unfollowed := true, recurses := true, leaving := true, apart := false, narrowed := true }
def FnExactIsDiagonalizableUptoSaid : Prop := fnExactIsDiagonalizableUptoRow.holds Try.pinned (OpenSpec.upto fnExactIsDiagonalizableSpec)

/-- 'laws.FnExactCommonSpace', WHERE WHAT IT READS IS OF BULK AT MOST 1048576: true; the input reads as it did. -/
def fnExactCommonSpaceUptoRow : OpenClaim := { program := "ytijbecjkldaddab", sum := "431aa31e297ec072e0ba2568d374e5fc9600fbb965f687617af537d0e8f65b81", func := "loop.example/g01132/laws.FnExactCommonSpace", spec := "fnExactCommonSpace", unfollowed := true, recurses := true, leaving := true, apart := false, narrowed := true }
def FnExactCommonSpaceUptoSaid : Prop := fnExactCommonSpaceUptoRow.holds Try.pinned (OpenSpec.upto fnExactCommonSpaceSpec)

end Rows
end Go.Proofs.Ytijbecjkldaddab
