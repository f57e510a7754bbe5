/-
  No cell of these rows narrows 'for every input' (looked for: loops, veiled, ifaces, maps, wideKeys, modest, calm, conditions, laid).
  DERIVED. THE GIVEN ROWS OF THIS SEAT. 12 by the template 'for every input the law returns true; each argument reads behind the call as it read before'; 0 by the template 'total and deterministic' (their statements: YtaffdoihmalilaaTotals.lean).
  GIVEN WITH THE SEED: the statements are not yours to turn. If you find one false, say at which input.
  Laid BY PROGRAM, IN A SANDBOX (cutbox-rows.mjs): the forced cells as the released guide's own fill.sh prints them over the translation 9e6130d3e99efda2… (all of the seat's roots in one cut). By AI agents, Wed Nov 11 2026. No macro, syntax, notation, axiom, sorry.
-/
import Derived.Test.YtaffdoihmalilaaChecked
import GoSem.Claim
import GoSem.ClaimJoined
import GoSem.ClaimMapViews
import Derived.JoinedTies
import Derived.KernelRfl
namespace Go.Proofs.Ytaffdoihmalilaa
/- THE CELL 'sum', in the pinned program and in every row, IS THE sha256 OF THE DUMP (.gsa) THAT YtaffdoihmalilaaProg.lean LOADS. Nothing in Lean hashes anything: it is a label: what it is worth is what the hold of that sum in a sandbox is worth. -/
noncomputable def Try.pinned : Pinned := { name := "ytaffdoihmalilaa", sum := "9e6130d3e99efda2acb5aa85f113b46eab788b60f318cbae93075d5dd1d8055d", checked := Try.checked }
namespace Rows
def none {H : Type} : Left H := { results := [], args := [] }

/-- 'laws.FnExactDeterminant': WHATEVER THE INPUT: true; the input reads as it did. -/
def fnExactDeterminantSpec : ChangeSpec := { name := "fnExactDeterminant", fn := fun _ => fun
  | [d] => { results := [.lit (.bool true)], args := [d] }
  | _ => none }
def fnExactDeterminantRow : OpenClaim := { program := "ytaffdoihmalilaa", sum := "9e6130d3e99efda2acb5aa85f113b46eab788b60f318cbae93075d5dd1d8055d", func := "loop.example/g01132/laws.FnExactDeterminant", spec := "fnExactDeterminant", unfollowed := true, recurses := true, apart := false }
def FnExactDeterminantSaid : Prop := fnExactDeterminantRow.holds Try.pinned (OpenSpec.ofChange fnExactDeterminantSpec)

/-- ITS FALSE NEIGHBOUR: 'it returns false'. Refute it at one input. -/
def fnExactDeterminantWrong : ChangeSpec := { name := "fnExactDeterminant", fn := fun _ => fun
  | [d] => { results := [.lit (.bool false)], args := [d] }
  | _ => none }
def FnExactDeterminantWrongFalsely : Prop := fnExactDeterminantRow.holds Try.pinned (OpenSpec.ofChange fnExactDeterminantWrong)

/-- 'laws.FnExactInverseMatrix': WHATEVER THE INPUT: true; the input reads as it did. -/
def fnExactInverseMatrixSpec : ChangeSpec := { name := "fnExactInverseMatrix", fn := fun _ => fun
  | [d] => { results := [.lit (.bool true)], args := [d] }
  | _ => none }
def fnExactInverseMatrixRow : OpenClaim := { program := "ytaffdoihmalilaa", sum := "9e6130d3e99efda2acb5aa85f113b46eab788b60f318cbae93075d5dd1d8055d", func := "loop.example/g01132/laws.FnExactInverseMatrix", spec := "fnExactInverseMatrix", unfollowed := true, recurses := true, apart := false }
def FnExactInverseMatrixSaid : Prop := fnExactInverseMatrixRow.holds Try.pinned (OpenSpec.ofChange fnExactInverseMatrixSpec)

/-- ITS FALSE NEIGHBOUR: 'it returns false'. Refute it at one input. -/
def fnExactInverseMatrixWrong : ChangeSpec := { name := "fnExactInverseMatrix", fn := fun _ => fun
  | [d] => { results := [.lit (.bool false)], args := [d] }
  | _ => none }
def FnExactInverseMatrixWrongFalsely : Prop := fnExactInverseMatrixRow.holds Try.pinned (OpenSpec.ofChange fnExactInverseMatrixWrong)

/-- 'laws.FnExactKernelBasis': WHATEVER THE INPUT: true; the input reads as it did. -/
def fnExactKernelBasisSpec : ChangeSpec := { name := "fnExactKernelBasis", fn := fun _ => fun
  | [d] => { results := [.lit (.bool true)], args := [d] }
  | _ => none }
def fnExactKernelBasisRow : OpenClaim := { program := "ytaffdoihmalilaa", sum := "9e6130d3e99efda2acb5aa85f113b46eab788b60f318cbae93075d5dd1d8055d", func := "loop.example/g01132/laws.FnExactKernelBasis", spec := "fnExactKernelBasis", unfollowed := true, recurses := true, apart := false }
def FnExactKernelBasisSaid : Prop := fnExactKernelBasisRow.holds Try.pinned (OpenSpec.ofChange fnExactKernelBasisSpec)

/-- ITS FALSE NEIGHBOUR: 'it returns false'. Refute it at one input. -/
def fnExactKernelBasisWrong : ChangeSpec := { name := "fnExactKernelBasis", fn := fun _ => fun
  | [d] => { results := [.lit (.bool false)], args := [d] }
  | _ => none }
def FnExactKernelBasisWrongFalsely : Prop := fnExactKernelBasisRow.holds Try.pinned (OpenSpec.ofChange fnExactKernelBasisWrong)

/-- 'laws.FnExactCharacteristicPolynomial': WHATEVER THE INPUT: true; the input reads as it did. -/
def fnExactCharacteristicPolynomialSpec : ChangeSpec := { name := "fnExactCharacteristicPolynomial", fn := fun _ => fun
  | [d] => { results := [.lit (.bool true)], args := [d] }
  | _ => none }
def fnExactCharacteristicPolynomialRow : OpenClaim := { program := "ytaffdoihmalilaa", sum := "9e6130d3e99efda2acb5aa85f113b46eab788b60f318cbae93075d5dd1d8055d", func := "loop.example/g01132/laws.FnExactCharacteristicPolynomial", spec := "fnExactCharacteristicPolynomial", unfollowed := true, recurses := true, apart := false }
def FnExactCharacteristicPolynomialSaid : Prop := fnExactCharacteristicPolynomialRow.holds Try.pinned (OpenSpec.ofChange fnExactCharacteristicPolynomialSpec)

/-- ITS FALSE NEIGHBOUR: 'it returns false'. Refute it at one input. -/
def fnExactCharacteristicPolynomialWrong : ChangeSpec := { name := "fnExactCharacteristicPolynomial", fn := fun _ => fun
  | [d] => { results := [.lit (.bool false)], args := [d] }
  | _ => none }
def FnExactCharacteristicPolynomialWrongFalsely : Prop := fnExactCharacteristicPolynomialRow.holds Try.pinned (OpenSpec.ofChange fnExactCharacteristicPolynomialWrong)

/-- 'laws.FnExactEigenspaceOf': WHATEVER THE INPUT: true; the input reads as it did. -/
def fnExactEigenspaceOfSpec : ChangeSpec := { name := "fnExactEigenspaceOf", fn := fun _ => fun
  | [d1, d2] => { results := [.lit (.bool true)], args := [d1, d2] }
  | _ => none }
def fnExactEigenspaceOfRow : OpenClaim := { program := "ytaffdoihmalilaa", sum := "9e6130d3e99efda2acb5aa85f113b46eab788b60f318cbae93075d5dd1d8055d", func := "loop.example/g01132/laws.FnExactEigenspaceOf", spec := "fnExactEigenspaceOf", unfollowed := true, recurses := true, apart := false }
def FnExactEigenspaceOfSaid : Prop := fnExactEigenspaceOfRow.holds Try.pinned (OpenSpec.ofChange fnExactEigenspaceOfSpec)

/-- ITS FALSE NEIGHBOUR: 'it returns false'. Refute it at one input. -/
def fnExactEigenspaceOfWrong : ChangeSpec := { name := "fnExactEigenspaceOf", fn := fun _ => fun
  | [d1, d2] => { results := [.lit (.bool false)], args := [d1, d2] }
  | _ => none }
def FnExactEigenspaceOfWrongFalsely : Prop := fnExactEigenspaceOfRow.holds Try.pinned (OpenSpec.ofChange fnExactEigenspaceOfWrong)

/-- 'laws.FnExactCommonSpace': WHATEVER THE INPUT: true; the input reads as it did. -/
def fnExactCommonSpaceSpec : ChangeSpec := { name := "fnExactCommonSpace", fn := fun _ => fun
  | [d1, d2] => { results := [.lit (.bool true)], args := [d1, d2] }
  | _ => none }
def fnExactCommonSpaceRow : OpenClaim := { program := "ytaffdoihmalilaa", sum := "9e6130d3e99efda2acb5aa85f113b46eab788b60f318cbae93075d5dd1d8055d", func := "loop.example/g01132/laws.FnExactCommonSpace", spec := "fnExactCommonSpace", unfollowed := true, recurses := true, apart := false }
def FnExactCommonSpaceSaid : Prop := fnExactCommonSpaceRow.holds Try.pinned (OpenSpec.ofChange fnExactCommonSpaceSpec)

/-- ITS FALSE NEIGHBOUR: 'it returns false'. Refute it at one input. -/
def fnExactCommonSpaceWrong : ChangeSpec := { name := "fnExactCommonSpace", fn := fun _ => fun
  | [d1, d2] => { results := [.lit (.bool false)], args := [d1, d2] }
  | _ => none }
def FnExactCommonSpaceWrongFalsely : Prop := fnExactCommonSpaceRow.holds Try.pinned (OpenSpec.ofChange fnExactCommonSpaceWrong)

/-- 'laws.FnMatrices': WHATEVER THE INPUT: true; the input reads as it did. -/
def fnMatricesSpec : ChangeSpec := { name := "fnMatrices", fn := fun _ => fun
  | [d] => { results := [.lit (.bool true)], args := [d] }
  | _ => none }
def fnMatricesRow : OpenClaim := { program := "ytaffdoihmalilaa", sum := "9e6130d3e99efda2acb5aa85f113b46eab788b60f318cbae93075d5dd1d8055d", func := "loop.example/g01132/laws.FnMatrices", spec := "fnMatrices", unfollowed := true, recurses := true, apart := false }
def FnMatricesSaid : Prop := fnMatricesRow.holds Try.pinned (OpenSpec.ofChange fnMatricesSpec)

/-- ITS FALSE NEIGHBOUR: 'it returns false'. Refute it at one input. -/
def fnMatricesWrong : ChangeSpec := { name := "fnMatrices", fn := fun _ => fun
  | [d] => { results := [.lit (.bool false)], args := [d] }
  | _ => none }
def FnMatricesWrongFalsely : Prop := fnMatricesRow.holds Try.pinned (OpenSpec.ofChange fnMatricesWrong)

/-- 'laws.FnInverses': WHATEVER THE INPUT: true; the input reads as it did. -/
def fnInversesSpec : ChangeSpec := { name := "fnInverses", fn := fun _ => fun
  | [d] => { results := [.lit (.bool true)], args := [d] }
  | _ => none }
def fnInversesRow : OpenClaim := { program := "ytaffdoihmalilaa", sum := "9e6130d3e99efda2acb5aa85f113b46eab788b60f318cbae93075d5dd1d8055d", func := "loop.example/g01132/laws.FnInverses", spec := "fnInverses", unfollowed := true, recurses := true, apart := false }
def FnInversesSaid : Prop := fnInversesRow.holds Try.pinned (OpenSpec.ofChange fnInversesSpec)

/-- ITS FALSE NEIGHBOUR: 'it returns false'. Refute it at one input. -/
def fnInversesWrong : ChangeSpec := { name := "fnInverses", fn := fun _ => fun
  | [d] => { results := [.lit (.bool false)], args := [d] }
  | _ => none }
def FnInversesWrongFalsely : Prop := fnInversesRow.holds Try.pinned (OpenSpec.ofChange fnInversesWrong)

/-- 'laws.FnExactIsRing': WHATEVER THE INPUT: true; the input reads as it did. -/
def fnExactIsRingSpec : ChangeSpec := { name := "fnExactIsRing", fn := fun _ => fun
  | [d] => { results := [.lit (.bool true)], args := [d] }
  | _ => none }
def fnExactIsRingRow : OpenClaim := { program := "ytaffdoihmalilaa", sum := "9e6130d3e99efda2acb5aa85f113b46eab788b60f318cbae93075d5dd1d8055d", func := "loop.example/g01132/laws.FnExactIsRing", spec := "fnExactIsRing", unfollowed := true, recurses := true, apart := false }
def FnExactIsRingSaid : Prop := fnExactIsRingRow.holds Try.pinned (OpenSpec.ofChange fnExactIsRingSpec)

/-- ITS FALSE NEIGHBOUR: 'it returns false'. Refute it at one input. -/
def fnExactIsRingWrong : ChangeSpec := { name := "fnExactIsRing", fn := fun _ => fun
  | [d] => { results := [.lit (.bool false)], args := [d] }
  | _ => none }
def FnExactIsRingWrongFalsely : Prop := fnExactIsRingRow.holds Try.pinned (OpenSpec.ofChange fnExactIsRingWrong)

/-- 'laws.FnExactRingFault': WHATEVER THE INPUT: true; the input reads as it did. -/
def fnExactRingFaultSpec : ChangeSpec := { name := "fnExactRingFault", fn := fun _ => fun
  | [d] => { results := [.lit (.bool true)], args := [d] }
  | _ => none }
def fnExactRingFaultRow : OpenClaim := { program := "ytaffdoihmalilaa", sum := "9e6130d3e99efda2acb5aa85f113b46eab788b60f318cbae93075d5dd1d8055d", func := "loop.example/g01132/laws.FnExactRingFault", spec := "fnExactRingFault", unfollowed := true, recurses := true, apart := false }
def FnExactRingFaultSaid : Prop := fnExactRingFaultRow.holds Try.pinned (OpenSpec.ofChange fnExactRingFaultSpec)

/-- ITS FALSE NEIGHBOUR: 'it returns false'. Refute it at one input. -/
def fnExactRingFaultWrong : ChangeSpec := { name := "fnExactRingFault", fn := fun _ => fun
  | [d] => { results := [.lit (.bool false)], args := [d] }
  | _ => none }
def FnExactRingFaultWrongFalsely : Prop := fnExactRingFaultRow.holds Try.pinned (OpenSpec.ofChange fnExactRingFaultWrong)

/-- 'laws.FnExactDualsOf': WHATEVER THE INPUT: true; the input reads as it did. -/
def fnExactDualsOfSpec : ChangeSpec := { name := "fnExactDualsOf", fn := fun _ => fun
  | [d] => { results := [.lit (.bool true)], args := [d] }
  | _ => none }
def fnExactDualsOfRow : OpenClaim := { program := "ytaffdoihmalilaa", sum := "9e6130d3e99efda2acb5aa85f113b46eab788b60f318cbae93075d5dd1d8055d", func := "loop.example/g01132/laws.FnExactDualsOf", spec := "fnExactDualsOf", unfollowed := true, recurses := true, apart := false }
def FnExactDualsOfSaid : Prop := fnExactDualsOfRow.holds Try.pinned (OpenSpec.ofChange fnExactDualsOfSpec)

/-- ITS FALSE NEIGHBOUR: 'it returns false'. Refute it at one input. -/
def fnExactDualsOfWrong : ChangeSpec := { name := "fnExactDualsOf", fn := fun _ => fun
  | [d] => { results := [.lit (.bool false)], args := [d] }
  | _ => none }
def FnExactDualsOfWrongFalsely : Prop := fnExactDualsOfRow.holds Try.pinned (OpenSpec.ofChange fnExactDualsOfWrong)

/-- 'laws.FnExactIsCommutativeRing': WHATEVER THE INPUT: true; the input reads as it did. -/
def fnExactIsCommutativeRingSpec : ChangeSpec := { name := "fnExactIsCommutativeRing", fn := fun _ => fun
  | [d] => { results := [.lit (.bool true)], args := [d] }
  | _ => none }
def fnExactIsCommutativeRingRow : OpenClaim := { program := "ytaffdoihmalilaa", sum := "9e6130d3e99efda2acb5aa85f113b46eab788b60f318cbae93075d5dd1d8055d", func := "loop.example/g01132/laws.FnExactIsCommutativeRing", spec := "fnExactIsCommutativeRing", unfollowed := true, recurses := true, apart := false }
def FnExactIsCommutativeRingSaid : Prop := fnExactIsCommutativeRingRow.holds Try.pinned (OpenSpec.ofChange fnExactIsCommutativeRingSpec)

/-- ITS FALSE NEIGHBOUR: 'it returns false'. Refute it at one input. -/
def fnExactIsCommutativeRingWrong : ChangeSpec := { name := "fnExactIsCommutativeRing", fn := fun _ => fun
  | [d] => { results := [.lit (.bool false)], args := [d] }
  | _ => none }
def FnExactIsCommutativeRingWrongFalsely : Prop := fnExactIsCommutativeRingRow.holds Try.pinned (OpenSpec.ofChange fnExactIsCommutativeRingWrong)

/- THE SECOND FORM. 'bulk': how many values and letters a reading holds, each counted each time it is reached (what is shared counts as often as it is met; a slice's spare places count too). A statement '..UptoSaid' is the law's where the arguments, and the package variables that the reading takes, are together of bulk at most 1048576: NARROWER than '..Said'. Prove '..Said' where nothing that the law and all that it calls make is longer than what came in: it says more and counts as full. Else prove '..UptoSaid'. A law counts once. -/
mutual
def uptoBulk {H : Type} : DataW H → Nat
  | .lit (.string bytes) => bytes.length + 1
  | .lit _ => 1
  | .nil => 1
  | .ptr d => uptoBulk d + 1
  | .slice elems spare => uptoBulkAll elems + uptoBulkAll spare + 1
  | .agg parts => uptoBulkAll parts + 1
  | .iface _ d => uptoBulk d + 1
  | .map entries => uptoBulkEntries entries + 1
  | .held _ => 1
def uptoBulkAll {H : Type} : List (DataW H) → Nat
  | [] => 0
  | d :: r => uptoBulk d + uptoBulkAll r
def uptoBulkEntries {H : Type} : List (Lit × DataW H) → Nat
  | [] => 0
  | x :: r => uptoBulkEntry x + uptoBulkEntries r
def uptoBulkEntry {H : Type} : Lit × DataW H → Nat
  | (.string bytes, d) => bytes.length + uptoBulk d + 1
  | (_, d) => uptoBulk d + 1
 end
def uptoSmall : (H : Type) → List (DataW H) → Bool := fun _ ds => decide (uptoBulkAll ds ≤ 1048576)
def OpenSpec.upto (s : _root_.Go.ChangeSpec) : _root_.Go.OpenSpec := { _root_.Go.OpenSpec.ofChange s with cond := some uptoSmall }

/-- 'laws.FnExactDeterminant', WHERE WHAT IT READS IS OF BULK AT MOST 1048576: true; the input reads as it did. -/
def fnExactDeterminantUptoRow : OpenClaim := { program := "ytaffdoihmalilaa", sum := "9e6130d3e99efda2acb5aa85f113b46eab788b60f318cbae93075d5dd1d8055d", func := "loop.example/g01132/laws.FnExactDeterminant", spec := "fnExactDeterminant", unfollowed := true, recurses := true, apart := false, narrowed := true }
def FnExactDeterminantUptoSaid : Prop := fnExactDeterminantUptoRow.holds Try.pinned (OpenSpec.upto fnExactDeterminantSpec)

/-- 'laws.FnExactInverseMatrix', WHERE WHAT IT READS IS OF BULK AT MOST 1048576: true; the input reads as it did. -/
def fnExactInverseMatrixUptoRow : OpenClaim := { program := "ytaffdoihmalilaa", sum := "9e6130d3e99efda2acb5aa85f113b46eab788b60f318cbae93075d5dd1d8055d", func := "loop.example/g01132/laws.FnExactInverseMatrix", spec := "fnExactInverseMatrix", unfollowed := true, recurses := true, apart := false, narrowed := true }
def FnExactInverseMatrixUptoSaid : Prop := fnExactInverseMatrixUptoRow.holds Try.pinned (OpenSpec.upto fnExactInverseMatrixSpec)

/-- 'laws.FnExactKernelBasis', WHERE WHAT IT READS IS OF BULK AT MOST 1048576: true; the input reads as it did. -/
def fnExactKernelBasisUptoRow : OpenClaim := { program := "ytaffdoihmalilaa", sum := "9e6130d3e99efda2acb5aa85f113b46eab788b60f318cbae93075d5dd1d8055d", func := "loop.example/g01132/laws.FnExactKernelBasis", spec := "fnExactKernelBasis", unfollowed := true, recurses := true, apart := false, narrowed := true }
def FnExactKernelBasisUptoSaid : Prop := fnExactKernelBasisUptoRow.holds Try.pinned (OpenSpec.upto fnExactKernelBasisSpec)

/-- 'laws.FnExactCharacteristicPolynomial', WHERE WHAT IT READS IS OF BULK AT MOST 1048576: true; the input reads as it did. -/
def fnExactCharacteristicPolynomialUptoRow : OpenClaim := { program := "ytaffdoihmalilaa", sum := "9e6130d3e99efda2acb5aa85f113b46eab788b60f318cbae93075d5dd1d8055d", func := "loop.example/g01132/laws.FnExactCharacteristicPolynomial", spec := "fnExactCharacteristicPolynomial", unfollowed := true, recurses := true, apart := false, narrowed := true }
def FnExactCharacteristicPolynomialUptoSaid : Prop := fnExactCharacteristicPolynomialUptoRow.holds Try.pinned (OpenSpec.upto fnExactCharacteristicPolynomialSpec)

/-- 'laws.FnExactEigenspaceOf', WHERE WHAT IT READS IS OF BULK AT MOST 1048576: true; the input reads as it did. -/
def fnExactEigenspaceOfUptoRow : OpenClaim := { program := "ytaffdoihmalilaa", sum := "9e6130d3e99efda2acb5aa85f113b46eab788b60f318cbae93075d5dd1d8055d", func := "loop.example/g01132/laws.FnExactEigenspaceOf", spec := "fnExactEigenspaceOf", unfollowed := true, recurses := true, apart := false, narrowed := true }
def FnExactEigenspaceOfUptoSaid : Prop := fnExactEigenspaceOfUptoRow.holds Try.pinned (OpenSpec.upto fnExactEigenspaceOfSpec)

/-- 'laws.FnExactCommonSpace', WHERE WHAT IT READS IS OF BULK AT MOST 1048576: true; the input reads as it did. -/
def fnExactCommonSpaceUptoRow : OpenClaim := { program := "ytaffdoihmalilaa", sum := "9e6130d3e99efda2acb5aa85f113b46eab788b60f318cbae93075d5dd1d8055d", func := "loop.example/g01132/laws.FnExactCommonSpace", spec := "fnExactCommonSpace", unfollowed := true, recurses := true, apart := false, narrowed := true }
def FnExactCommonSpaceUptoSaid : Prop := fnExactCommonSpaceUptoRow.holds Try.pinned (OpenSpec.upto fnExactCommonSpaceSpec)

/-- 'laws.FnMatrices', WHERE WHAT IT READS IS OF BULK AT MOST 1048576: true; the input reads as it did. -/
def fnMatricesUptoRow : OpenClaim := { program := "ytaffdoihmalilaa", sum := "9e6130d3e99efda2acb5aa85f113b46eab788b60f318cbae93075d5dd1d8055d", func := "loop.example/g01132/laws.FnMatrices", spec := "fnMatrices", unfollowed := true, recurses := true, apart := false, narrowed := true }
def FnMatricesUptoSaid : Prop := fnMatricesUptoRow.holds Try.pinned (OpenSpec.upto fnMatricesSpec)

/-- 'laws.FnInverses', WHERE WHAT IT READS IS OF BULK AT MOST 1048576: true; the input reads as it did. -/
def fnInversesUptoRow : OpenClaim := { program := "ytaffdoihmalilaa", sum := "9e6130d3e99efda2acb5aa85f113b46eab788b60f318cbae93075d5dd1d8055d", func := "loop.example/g01132/laws.FnInverses", spec := "fnInverses", unfollowed := true, recurses := true, apart := false, narrowed := true }
def FnInversesUptoSaid : Prop := fnInversesUptoRow.holds Try.pinned (OpenSpec.upto fnInversesSpec)

/-- 'laws.FnExactIsRing', WHERE WHAT IT READS IS OF BULK AT MOST 1048576: true; the input reads as it did. -/
def fnExactIsRingUptoRow : OpenClaim := { program := "ytaffdoihmalilaa", sum := "9e6130d3e99efda2acb5aa85f113b46eab788b60f318cbae93075d5dd1d8055d", func := "loop.example/g01132/laws.FnExactIsRing", spec := "fnExactIsRing", unfollowed := true, recurses := true, apart := false, narrowed := true }
def FnExactIsRingUptoSaid : Prop := fnExactIsRingUptoRow.holds Try.pinned (OpenSpec.upto fnExactIsRingSpec)

/-- 'laws.FnExactRingFault', WHERE WHAT IT READS IS OF BULK AT MOST 1048576: true; the input reads as it did. -/
def fnExactRingFaultUptoRow : OpenClaim := { program := "ytaffdoihmalilaa", sum := "9e6130d3e99efda2acb5aa85f113b46eab788b60f318cbae93075d5dd1d8055d", func := "loop.example/g01132/laws.FnExactRingFault", spec := "fnExactRingFault", unfollowed := true, recurses := true, apart := false, narrowed := true }
def FnExactRingFaultUptoSaid : Prop := fnExactRingFaultUptoRow.holds Try.pinned (OpenSpec.upto fnExactRingFaultSpec)

/-- 'laws.FnExactDualsOf', WHERE WHAT IT READS IS OF BULK AT MOST 1048576: true; the input reads as it did. -/
def fnExactDualsOfUptoRow : OpenClaim := { program := "ytaffdoihmalilaa", sum := "9e6130d3e99efda2acb5aa85f113b46eab788b60f318cbae93075d5dd1d8055d", func := "loop.example/g01132/laws.FnExactDualsOf", spec := "fnExactDualsOf", unfollowed := true, recurses := true, apart := false, narrowed := true }
def FnExactDualsOfUptoSaid : Prop := fnExactDualsOfUptoRow.holds Try.pinned (OpenSpec.upto fnExactDualsOfSpec)

/-- 'laws.FnExactIsCommutativeRing', WHERE WHAT IT READS IS OF BULK AT MOST 1048576: true; the input reads as it did. -/
def fnExactIsCommutativeRingUptoRow : OpenClaim := { program := "ytaffdoihmalilaa", sum := "9e6130d3e99efda2acb5aa85f113b46eab788b60f318cbae93075d5dd1d8055d", func := "loop.example/g01132/laws.FnExactIsCommutativeRing", spec := "fnExactIsCommutativeRing", unfollowed := true, recurses := true, apart := false, narrowed := true }
def FnExactIsCommutativeRingUptoSaid : Prop := fnExactIsCommutativeRingUptoRow.holds Try.pinned (OpenSpec.upto fnExactIsCommutativeRingSpec)

end Rows
end Go.Proofs.Ytaffdoihmalilaa
