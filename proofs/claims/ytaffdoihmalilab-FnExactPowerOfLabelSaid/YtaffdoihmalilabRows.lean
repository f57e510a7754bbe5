/-
  No cell of these rows narrows 'for every input' (looked for: loops, veiled, ifaces, maps, wideKeys, modest, calm, conditions, laid).
  DERIVED. THE GIVEN ROWS OF THIS SEAT. 9 by the template 'for every input the law returns true; each argument reads behind the call as it read before'; 0 by the template 'total and deterministic' (their statements: YtaffdoihmalilabTotals.lean).
  GIVEN WITH THE SEED: the statements are not yours to turn. If you find one false, say at which input.
  Laid BY PROGRAM, IN A SANDBOX (cutbox-rows.mjs): the forced cells as the released guide's own fill.sh prints them over the translation 9bda4c9f1352685e… (all of the seat's roots in one cut). By AI agents, Wed Nov 11 2026. No macro, syntax, notation, axiom, sorry.
-/
import Derived.Test.YtaffdoihmalilabChecked
import GoSem.Claim
import GoSem.ClaimJoined
import GoSem.ClaimMapViews
import Derived.JoinedTies
import Derived.KernelRfl
namespace Go.Proofs.Ytaffdoihmalilab
/- THE CELL 'sum', in the pinned program and in every row, IS THE sha256 OF THE DUMP (.gsa) THAT YtaffdoihmalilabProg.lean LOADS. Nothing in Lean hashes anything: it is a label: what it is worth is what the hold of that sum in a sandbox is worth. -/
noncomputable def Try.pinned : Pinned := { name := "ytaffdoihmalilab", sum := "9bda4c9f1352685e302e8947c89b1ac178beb707a36301ef7de2d949505c2125", checked := Try.checked }
namespace Rows
def none {H : Type} : Left H := { results := [], args := [] }

/-- 'laws.FnExactIsSelfDual': WHATEVER THE INPUT: true; the input reads as it did. -/
def fnExactIsSelfDualSpec : ChangeSpec := { name := "fnExactIsSelfDual", fn := fun _ => fun
  | [d] => { results := [.lit (.bool true)], args := [d] }
  | _ => none }
def fnExactIsSelfDualRow : OpenClaim := { program := "ytaffdoihmalilab", sum := "9bda4c9f1352685e302e8947c89b1ac178beb707a36301ef7de2d949505c2125", func := "loop.example/g01132/laws.FnExactIsSelfDual", spec := "fnExactIsSelfDual", unfollowed := true, recurses := true, apart := false }
def FnExactIsSelfDualSaid : Prop := fnExactIsSelfDualRow.holds Try.pinned (OpenSpec.ofChange fnExactIsSelfDualSpec)

/-- ITS FALSE NEIGHBOUR: 'it returns false'. Refute it at one input. -/
def fnExactIsSelfDualWrong : ChangeSpec := { name := "fnExactIsSelfDual", fn := fun _ => fun
  | [d] => { results := [.lit (.bool false)], args := [d] }
  | _ => none }
def FnExactIsSelfDualWrongFalsely : Prop := fnExactIsSelfDualRow.holds Try.pinned (OpenSpec.ofChange fnExactIsSelfDualWrong)

/-- 'laws.FnExactMultiplyVectors': WHATEVER THE INPUT: true; the input reads as it did. -/
def fnExactMultiplyVectorsSpec : ChangeSpec := { name := "fnExactMultiplyVectors", fn := fun _ => fun
  | [d1, d2, d3] => { results := [.lit (.bool true)], args := [d1, d2, d3] }
  | _ => none }
def fnExactMultiplyVectorsRow : OpenClaim := { program := "ytaffdoihmalilab", sum := "9bda4c9f1352685e302e8947c89b1ac178beb707a36301ef7de2d949505c2125", func := "loop.example/g01132/laws.FnExactMultiplyVectors", spec := "fnExactMultiplyVectors", unfollowed := true, recurses := true, apart := false }
def FnExactMultiplyVectorsSaid : Prop := fnExactMultiplyVectorsRow.holds Try.pinned (OpenSpec.ofChange fnExactMultiplyVectorsSpec)

/-- ITS FALSE NEIGHBOUR: 'it returns false'. Refute it at one input. -/
def fnExactMultiplyVectorsWrong : ChangeSpec := { name := "fnExactMultiplyVectors", fn := fun _ => fun
  | [d1, d2, d3] => { results := [.lit (.bool false)], args := [d1, d2, d3] }
  | _ => none }
def FnExactMultiplyVectorsWrongFalsely : Prop := fnExactMultiplyVectorsRow.holds Try.pinned (OpenSpec.ofChange fnExactMultiplyVectorsWrong)

/-- 'laws.FnExactPowerOfLabel': WHATEVER THE INPUT: true; the input reads as it did. -/
def fnExactPowerOfLabelSpec : ChangeSpec := { name := "fnExactPowerOfLabel", fn := fun _ => fun
  | [d1, d2, d3] => { results := [.lit (.bool true)], args := [d1, d2, d3] }
  | _ => none }
def fnExactPowerOfLabelRow : OpenClaim := { program := "ytaffdoihmalilab", sum := "9bda4c9f1352685e302e8947c89b1ac178beb707a36301ef7de2d949505c2125", func := "loop.example/g01132/laws.FnExactPowerOfLabel", spec := "fnExactPowerOfLabel", unfollowed := true, recurses := true, apart := false }
def FnExactPowerOfLabelSaid : Prop := fnExactPowerOfLabelRow.holds Try.pinned (OpenSpec.ofChange fnExactPowerOfLabelSpec)

/-- ITS FALSE NEIGHBOUR: 'it returns false'. Refute it at one input. -/
def fnExactPowerOfLabelWrong : ChangeSpec := { name := "fnExactPowerOfLabel", fn := fun _ => fun
  | [d1, d2, d3] => { results := [.lit (.bool false)], args := [d1, d2, d3] }
  | _ => none }
def FnExactPowerOfLabelWrongFalsely : Prop := fnExactPowerOfLabelRow.holds Try.pinned (OpenSpec.ofChange fnExactPowerOfLabelWrong)

/-- 'laws.FnExactOppositeRing': WHATEVER THE INPUT: true; the input reads as it did. -/
def fnExactOppositeRingSpec : ChangeSpec := { name := "fnExactOppositeRing", fn := fun _ => fun
  | [d] => { results := [.lit (.bool true)], args := [d] }
  | _ => none }
def fnExactOppositeRingRow : OpenClaim := { program := "ytaffdoihmalilab", sum := "9bda4c9f1352685e302e8947c89b1ac178beb707a36301ef7de2d949505c2125", func := "loop.example/g01132/laws.FnExactOppositeRing", spec := "fnExactOppositeRing", unfollowed := true, recurses := true, apart := false }
def FnExactOppositeRingSaid : Prop := fnExactOppositeRingRow.holds Try.pinned (OpenSpec.ofChange fnExactOppositeRingSpec)

/-- ITS FALSE NEIGHBOUR: 'it returns false'. Refute it at one input. -/
def fnExactOppositeRingWrong : ChangeSpec := { name := "fnExactOppositeRing", fn := fun _ => fun
  | [d] => { results := [.lit (.bool false)], args := [d] }
  | _ => none }
def FnExactOppositeRingWrongFalsely : Prop := fnExactOppositeRingRow.holds Try.pinned (OpenSpec.ofChange fnExactOppositeRingWrong)

/-- 'laws.FnExactRingIsomorphism': WHATEVER THE INPUT: true; the input reads as it did. -/
def fnExactRingIsomorphismSpec : ChangeSpec := { name := "fnExactRingIsomorphism", fn := fun _ => fun
  | [d1, d2] => { results := [.lit (.bool true)], args := [d1, d2] }
  | _ => none }
def fnExactRingIsomorphismRow : OpenClaim := { program := "ytaffdoihmalilab", sum := "9bda4c9f1352685e302e8947c89b1ac178beb707a36301ef7de2d949505c2125", func := "loop.example/g01132/laws.FnExactRingIsomorphism", spec := "fnExactRingIsomorphism", unfollowed := true, recurses := true, apart := false }
def FnExactRingIsomorphismSaid : Prop := fnExactRingIsomorphismRow.holds Try.pinned (OpenSpec.ofChange fnExactRingIsomorphismSpec)

/-- ITS FALSE NEIGHBOUR: 'it returns false'. Refute it at one input. -/
def fnExactRingIsomorphismWrong : ChangeSpec := { name := "fnExactRingIsomorphism", fn := fun _ => fun
  | [d1, d2] => { results := [.lit (.bool false)], args := [d1, d2] }
  | _ => none }
def FnExactRingIsomorphismWrongFalsely : Prop := fnExactRingIsomorphismRow.holds Try.pinned (OpenSpec.ofChange fnExactRingIsomorphismWrong)

/-- 'laws.FnExactCountRingAutomorphisms': WHATEVER THE INPUT: true; the input reads as it did. -/
def fnExactCountRingAutomorphismsSpec : ChangeSpec := { name := "fnExactCountRingAutomorphisms", fn := fun _ => fun
  | [d] => { results := [.lit (.bool true)], args := [d] }
  | _ => none }
def fnExactCountRingAutomorphismsRow : OpenClaim := { program := "ytaffdoihmalilab", sum := "9bda4c9f1352685e302e8947c89b1ac178beb707a36301ef7de2d949505c2125", func := "loop.example/g01132/laws.FnExactCountRingAutomorphisms", spec := "fnExactCountRingAutomorphisms", unfollowed := true, recurses := true, apart := false }
def FnExactCountRingAutomorphismsSaid : Prop := fnExactCountRingAutomorphismsRow.holds Try.pinned (OpenSpec.ofChange fnExactCountRingAutomorphismsSpec)

/-- ITS FALSE NEIGHBOUR: 'it returns false'. Refute it at one input. -/
def fnExactCountRingAutomorphismsWrong : ChangeSpec := { name := "fnExactCountRingAutomorphisms", fn := fun _ => fun
  | [d] => { results := [.lit (.bool false)], args := [d] }
  | _ => none }
def FnExactCountRingAutomorphismsWrongFalsely : Prop := fnExactCountRingAutomorphismsRow.holds Try.pinned (OpenSpec.ofChange fnExactCountRingAutomorphismsWrong)

/-- 'laws.FnExactLeastRing': WHATEVER THE INPUT: true; the input reads as it did. -/
def fnExactLeastRingSpec : ChangeSpec := { name := "fnExactLeastRing", fn := fun _ => fun
  | [d] => { results := [.lit (.bool true)], args := [d] }
  | _ => none }
def fnExactLeastRingRow : OpenClaim := { program := "ytaffdoihmalilab", sum := "9bda4c9f1352685e302e8947c89b1ac178beb707a36301ef7de2d949505c2125", func := "loop.example/g01132/laws.FnExactLeastRing", spec := "fnExactLeastRing", unfollowed := true, recurses := true, apart := false }
def FnExactLeastRingSaid : Prop := fnExactLeastRingRow.holds Try.pinned (OpenSpec.ofChange fnExactLeastRingSpec)

/-- ITS FALSE NEIGHBOUR: 'it returns false'. Refute it at one input. -/
def fnExactLeastRingWrong : ChangeSpec := { name := "fnExactLeastRing", fn := fun _ => fun
  | [d] => { results := [.lit (.bool false)], args := [d] }
  | _ => none }
def FnExactLeastRingWrongFalsely : Prop := fnExactLeastRingRow.holds Try.pinned (OpenSpec.ofChange fnExactLeastRingWrong)

/-- 'laws.FnRings': WHATEVER THE INPUT: true; the input reads as it did. -/
def fnRingsSpec : ChangeSpec := { name := "fnRings", fn := fun _ => fun
  | [d] => { results := [.lit (.bool true)], args := [d] }
  | _ => none }
def fnRingsRow : OpenClaim := { program := "ytaffdoihmalilab", sum := "9bda4c9f1352685e302e8947c89b1ac178beb707a36301ef7de2d949505c2125", func := "loop.example/g01132/laws.FnRings", spec := "fnRings", unfollowed := true, recurses := true, apart := false }
def FnRingsSaid : Prop := fnRingsRow.holds Try.pinned (OpenSpec.ofChange fnRingsSpec)

/-- ITS FALSE NEIGHBOUR: 'it returns false'. Refute it at one input. -/
def fnRingsWrong : ChangeSpec := { name := "fnRings", fn := fun _ => fun
  | [d] => { results := [.lit (.bool false)], args := [d] }
  | _ => none }
def FnRingsWrongFalsely : Prop := fnRingsRow.holds Try.pinned (OpenSpec.ofChange fnRingsWrong)

/-- 'laws.FnRingKinds': WHATEVER THE INPUT: true; the input reads as it did. -/
def fnRingKindsSpec : ChangeSpec := { name := "fnRingKinds", fn := fun _ => fun
  | [d] => { results := [.lit (.bool true)], args := [d] }
  | _ => none }
def fnRingKindsRow : OpenClaim := { program := "ytaffdoihmalilab", sum := "9bda4c9f1352685e302e8947c89b1ac178beb707a36301ef7de2d949505c2125", func := "loop.example/g01132/laws.FnRingKinds", spec := "fnRingKinds", unfollowed := true, recurses := true, apart := false }
def FnRingKindsSaid : Prop := fnRingKindsRow.holds Try.pinned (OpenSpec.ofChange fnRingKindsSpec)

/-- ITS FALSE NEIGHBOUR: 'it returns false'. Refute it at one input. -/
def fnRingKindsWrong : ChangeSpec := { name := "fnRingKinds", fn := fun _ => fun
  | [d] => { results := [.lit (.bool false)], args := [d] }
  | _ => none }
def FnRingKindsWrongFalsely : Prop := fnRingKindsRow.holds Try.pinned (OpenSpec.ofChange fnRingKindsWrong)

/- THE SECOND FORM. 'bulk': how many values and letters a reading holds, each counted each time it is reached (what is shared counts as often as it is met; a slice's spare places count too). A statement '..UptoSaid' is the law's where the arguments, and the package variables that the reading takes, are together of bulk at most 1048576: NARROWER than '..Said'. Prove '..Said' where nothing that the law and all that it calls make is longer than what came in: it says more and counts as full. Else prove '..UptoSaid'. A law counts once. -/
mutual
def uptoBulk {H : Type} : DataW H → Nat
  | .lit (.string bytes) => bytes.length + 1
  | .lit _ => 1
  | .nil => 1
  | .ptr d => uptoBulk d + 1
  | .slice elems spare => uptoBulkAll elems + uptoBulkAll spare + 1
  | .agg parts => uptoBulkAll parts + 1
  | .iface _ d => uptoBulk d + 1
  | .map entries => uptoBulkEntries entries + 1
  | .held _ => 1
def uptoBulkAll {H : Type} : List (DataW H) → Nat
  | [] => 0
  | d :: r => uptoBulk d + uptoBulkAll r
def uptoBulkEntries {H : Type} : List (Lit × DataW H) → Nat
  | [] => 0
  | x :: r => uptoBulkEntry x + uptoBulkEntries r
def uptoBulkEntry {H : Type} : Lit × DataW H → Nat
  | (.string bytes, d) => bytes.length + uptoBulk d + 1
  | (_, d) => uptoBulk d + 1
 end
def uptoSmall : (H : Type) → List (DataW H) → Bool := fun _ ds => decide (uptoBulkAll ds ≤ 1048576)
def OpenSpec.upto (s : _root_.Go.ChangeSpec) : _root_.Go.OpenSpec := { _root_.Go.OpenSpec.ofChange s with cond := some uptoSmall }

/-- 'laws.FnExactIsSelfDual', WHERE WHAT IT READS IS OF BULK AT MOST 1048576: true; the input reads as it did. -/
def fnExactIsSelfDualUptoRow : OpenClaim := { program := "ytaffdoihmalilab", sum := "9bda4c9f1352685e302e8947c89b1ac178beb707a36301ef7de2d949505c2125", func := "loop.example/g01132/laws.FnExactIsSelfDual", spec := "fnExactIsSelfDual", unfollowed := true, recurses := true, apart := false, narrowed := true }
def FnExactIsSelfDualUptoSaid : Prop := fnExactIsSelfDualUptoRow.holds Try.pinned (OpenSpec.upto fnExactIsSelfDualSpec)

/-- 'laws.FnExactMultiplyVectors', WHERE WHAT IT READS IS OF BULK AT MOST 1048576: true; the input reads as it did. -/
def fnExactMultiplyVectorsUptoRow : OpenClaim := { program := "ytaffdoihmalilab", sum := "9bda4c9f1352685e302e8947c89b1ac178beb707a36301ef7de2d949505c2125", func := "loop.example/g01132/laws.FnExactMultiplyVectors", spec := "fnExactMultiplyVectors", unfollowed := true, recurses := true, apart := false, narrowed := true }
def FnExactMultiplyVectorsUptoSaid : Prop := fnExactMultiplyVectorsUptoRow.holds Try.pinned (OpenSpec.upto fnExactMultiplyVectorsSpec)

/-- 'laws.FnExactPowerOfLabel', WHERE WHAT IT READS IS OF BULK AT MOST 1048576: true; the input reads as it did. -/
def fnExactPowerOfLabelUptoRow : OpenClaim := { program := "ytaffdoihmalilab", sum := "9bda4c9f1352685e302e8947c89b1ac178beb707a36301ef7de2d949505c2125", func := "loop.example/g01132/laws.FnExactPowerOfLabel", spec := "fnExactPowerOfLabel", unfollowed := true, recurses := true, apart := false, narrowed := true }
def FnExactPowerOfLabelUptoSaid : Prop := fnExactPowerOfLabelUptoRow.holds Try.pinned (OpenSpec.upto fnExactPowerOfLabelSpec)

/-- 'laws.FnExactOppositeRing', WHERE WHAT IT READS IS OF BULK AT MOST 1048576: true; the input reads as it did. -/
def fnExactOppositeRingUptoRow : OpenClaim := { program := "ytaffdoihmalilab", sum := "9bda4c9f1352685e302e8947c89b1ac178beb707a36301ef7de2d949505c2125", func := "loop.example/g01132/laws.FnExactOppositeRing", spec := "fnExactOppositeRing", unfollowed := true, recurses := true, apart := false, narrowed := true }
def FnExactOppositeRingUptoSaid : Prop := fnExactOppositeRingUptoRow.holds Try.pinned (OpenSpec.upto fnExactOppositeRingSpec)

/-- 'laws.FnExactRingIsomorphism', WHERE WHAT IT READS IS OF BULK AT MOST 1048576: true; the input reads as it did. -/
def fnExactRingIsomorphismUptoRow : OpenClaim := { program := "ytaffdoihmalilab", sum := "9bda4c9f1352685e302e8947c89b1ac178beb707a36301ef7de2d949505c2125", func := "loop.example/g01132/laws.FnExactRingIsomorphism", spec := "fnExactRingIsomorphism", unfollowed := true, recurses := true, apart := false, narrowed := true }
def FnExactRingIsomorphismUptoSaid : Prop := fnExactRingIsomorphismUptoRow.holds Try.pinned (OpenSpec.upto fnExactRingIsomorphismSpec)

/-- 'laws.FnExactCountRingAutomorphisms', WHERE WHAT IT READS IS OF BULK AT MOST 1048576: true; the input reads as it did. -/
def fnExactCountRingAutomorphismsUptoRow : OpenClaim := { program := "ytaffdoihmalilab", sum := "9bda4c9f1352685e302e8947c89b1ac178beb707a36301ef7de2d949505c2125", func := "loop.example/g01132/laws.FnExactCountRingAutomorphisms", spec := "fnExactCountRingAutomorphisms", unfollowed := true, recurses := true, apart := false, narrowed := true }
def FnExactCountRingAutomorphismsUptoSaid : Prop := fnExactCountRingAutomorphismsUptoRow.holds Try.pinned (OpenSpec.upto fnExactCountRingAutomorphismsSpec)

/-- 'laws.FnExactLeastRing', WHERE WHAT IT READS IS OF BULK AT MOST 1048576: true; the input reads as it did. -/
def fnExactLeastRingUptoRow : OpenClaim := { program := "ytaffdoihmalilab", sum := "9bda4c9f1352685e302e8947c89b1ac178beb707a36301ef7de2d949505c2125", func := "loop.example/g01132/laws.FnExactLeastRing", spec := "fnExactLeastRing", unfollowed := true, recurses := true, apart := false, narrowed := true }
def FnExactLeastRingUptoSaid : Prop := fnExactLeastRingUptoRow.holds Try.pinned (OpenSpec.upto fnExactLeastRingSpec)

/-- 'laws.FnRings', WHERE WHAT IT READS IS OF BULK AT MOST 1048576: true; the input reads as it did. -/
def fnRingsUptoRow : OpenClaim := { program := "ytaffdoihmalilab", sum := "9bda4c9f1352685e302e8947c89b1ac178beb707a36301ef7de2d949505c2125", func := "loop.example/g01132/laws.FnRings", spec := "fnRings", unfollowed := true, recurses := true, apart := false, narrowed := true }
def FnRingsUptoSaid : Prop := fnRingsUptoRow.holds Try.pinned (OpenSpec.upto fnRingsSpec)

/-- 'laws.FnRingKinds', WHERE WHAT IT READS IS OF BULK AT MOST 1048576: true; the input reads as it did. -/
def fnRingKindsUptoRow : OpenClaim := { program := "ytaffdoihmalilab", sum := "9bda4c9f1352685e302e8947c89b1ac178beb707a36301ef7de2d949505c2125", func := "loop.example/g01132/laws.FnRingKinds", spec := "fnRingKinds", unfollowed := true, recurses := true, apart := false, narrowed := true }
def FnRingKindsUptoSaid : Prop := fnRingKindsUptoRow.holds Try.pinned (OpenSpec.upto fnRingKindsSpec)

end Rows
end Go.Proofs.Ytaffdoihmalilab
