/-
  No cell of these rows narrows 'for every input' (looked for: loops, veiled, ifaces, maps, wideKeys, modest, calm, conditions, laid).
  DERIVED. THE GIVEN ROWS OF THIS SEAT. 8 by the template 'for every input the law returns true; each argument reads behind the call as it read before'; 0 by the template 'total and deterministic' (their statements: YtaffiohdjkbkkaaTotals.lean).
  GIVEN WITH THE SEED: the statements are not yours to turn. If you find one false, say at which input.
  Laid BY PROGRAM, IN A SANDBOX (cutbox-rows.mjs): the forced cells as the released guide's own fill.sh prints them over the translation 44278ef66f9aa3fe… (all of the seat's roots in one cut). By AI agents, Wed Nov 11 2026. No macro, syntax, notation, axiom, sorry.
-/
import Derived.Test.YtaffiohdjkbkkaaChecked
import GoSem.Claim
import GoSem.ClaimJoined
import GoSem.ClaimMapViews
import Derived.JoinedTies
import Derived.KernelRfl
namespace Go.Proofs.Ytaffiohdjkbkkaa
/- THE CELL 'sum', in the pinned program and in every row, IS THE sha256 OF THE DUMP (.gsa) THAT YtaffiohdjkbkkaaProg.lean LOADS. Nothing in Lean hashes anything: it is a label: what it is worth is what the hold of that sum in a sandbox is worth. -/
noncomputable def Try.pinned : Pinned := { name := "ytaffiohdjkbkkaa", sum := "44278ef66f9aa3feaf3e9385aebb866dbca643557f5c348c499b43a1b3a494b5", checked := Try.checked }
namespace Rows
def none {H : Type} : Left H := { results := [], args := [] }

/-- 'laws.FnExactCommonSpace': WHATEVER THE INPUT: true; the input reads as it did. -/
def fnExactCommonSpaceSpec : ChangeSpec := { name := "fnExactCommonSpace", fn := fun _ => fun
  | [d1, d2] => { results := [.lit (.bool true)], args := [d1, d2] }
  | _ => none }
def fnExactCommonSpaceRow : OpenClaim := { program := "ytaffiohdjkbkkaa", sum := "44278ef66f9aa3feaf3e9385aebb866dbca643557f5c348c499b43a1b3a494b5", func := "loop.example/g01132/laws.FnExactCommonSpace", spec := "fnExactCommonSpace", unfollowed := true, recurses := true, apart := false }
def FnExactCommonSpaceSaid : Prop := fnExactCommonSpaceRow.holds Try.pinned (OpenSpec.ofChange fnExactCommonSpaceSpec)

/-- ITS FALSE NEIGHBOUR: 'it returns false'. Refute it at one input. -/
def fnExactCommonSpaceWrong : ChangeSpec := { name := "fnExactCommonSpace", fn := fun _ => fun
  | [d1, d2] => { results := [.lit (.bool false)], args := [d1, d2] }
  | _ => none }
def FnExactCommonSpaceWrongFalsely : Prop := fnExactCommonSpaceRow.holds Try.pinned (OpenSpec.ofChange fnExactCommonSpaceWrong)

/-- 'laws.FnExactOppositeRing': WHATEVER THE INPUT: true; the input reads as it did. -/
def fnExactOppositeRingSpec : ChangeSpec := { name := "fnExactOppositeRing", fn := fun _ => fun
  | [d] => { results := [.lit (.bool true)], args := [d] }
  | _ => none }
def fnExactOppositeRingRow : OpenClaim := { program := "ytaffiohdjkbkkaa", sum := "44278ef66f9aa3feaf3e9385aebb866dbca643557f5c348c499b43a1b3a494b5", func := "loop.example/g01132/laws.FnExactOppositeRing", spec := "fnExactOppositeRing", unfollowed := true, recurses := true, apart := false }
def FnExactOppositeRingSaid : Prop := fnExactOppositeRingRow.holds Try.pinned (OpenSpec.ofChange fnExactOppositeRingSpec)

/-- ITS FALSE NEIGHBOUR: 'it returns false'. Refute it at one input. -/
def fnExactOppositeRingWrong : ChangeSpec := { name := "fnExactOppositeRing", fn := fun _ => fun
  | [d] => { results := [.lit (.bool false)], args := [d] }
  | _ => none }
def FnExactOppositeRingWrongFalsely : Prop := fnExactOppositeRingRow.holds Try.pinned (OpenSpec.ofChange fnExactOppositeRingWrong)

/-- 'laws.FnExactRingIsomorphism': WHATEVER THE INPUT: true; the input reads as it did. -/
def fnExactRingIsomorphismSpec : ChangeSpec := { name := "fnExactRingIsomorphism", fn := fun _ => fun
  | [d1, d2] => { results := [.lit (.bool true)], args := [d1, d2] }
  | _ => none }
def fnExactRingIsomorphismRow : OpenClaim := { program := "ytaffiohdjkbkkaa", sum := "44278ef66f9aa3feaf3e9385aebb866dbca643557f5c348c499b43a1b3a494b5", func := "loop.example/g01132/laws.FnExactRingIsomorphism", spec := "fnExactRingIsomorphism", unfollowed := true, recurses := true, apart := false }
def FnExactRingIsomorphismSaid : Prop := fnExactRingIsomorphismRow.holds Try.pinned (OpenSpec.ofChange fnExactRingIsomorphismSpec)

/-- ITS FALSE NEIGHBOUR: 'it returns false'. Refute it at one input. -/
def fnExactRingIsomorphismWrong : ChangeSpec := { name := "fnExactRingIsomorphism", fn := fun _ => fun
  | [d1, d2] => { results := [.lit (.bool false)], args := [d1, d2] }
  | _ => none }
def FnExactRingIsomorphismWrongFalsely : Prop := fnExactRingIsomorphismRow.holds Try.pinned (OpenSpec.ofChange fnExactRingIsomorphismWrong)

/-- 'laws.FnExactCountRingAutomorphisms': WHATEVER THE INPUT: true; the input reads as it did. -/
def fnExactCountRingAutomorphismsSpec : ChangeSpec := { name := "fnExactCountRingAutomorphisms", fn := fun _ => fun
  | [d] => { results := [.lit (.bool true)], args := [d] }
  | _ => none }
def fnExactCountRingAutomorphismsRow : OpenClaim := { program := "ytaffiohdjkbkkaa", sum := "44278ef66f9aa3feaf3e9385aebb866dbca643557f5c348c499b43a1b3a494b5", func := "loop.example/g01132/laws.FnExactCountRingAutomorphisms", spec := "fnExactCountRingAutomorphisms", unfollowed := true, recurses := true, apart := false }
def FnExactCountRingAutomorphismsSaid : Prop := fnExactCountRingAutomorphismsRow.holds Try.pinned (OpenSpec.ofChange fnExactCountRingAutomorphismsSpec)

/-- ITS FALSE NEIGHBOUR: 'it returns false'. Refute it at one input. -/
def fnExactCountRingAutomorphismsWrong : ChangeSpec := { name := "fnExactCountRingAutomorphisms", fn := fun _ => fun
  | [d] => { results := [.lit (.bool false)], args := [d] }
  | _ => none }
def FnExactCountRingAutomorphismsWrongFalsely : Prop := fnExactCountRingAutomorphismsRow.holds Try.pinned (OpenSpec.ofChange fnExactCountRingAutomorphismsWrong)

/-- 'laws.FnExactLeastRing': WHATEVER THE INPUT: true; the input reads as it did. -/
def fnExactLeastRingSpec : ChangeSpec := { name := "fnExactLeastRing", fn := fun _ => fun
  | [d] => { results := [.lit (.bool true)], args := [d] }
  | _ => none }
def fnExactLeastRingRow : OpenClaim := { program := "ytaffiohdjkbkkaa", sum := "44278ef66f9aa3feaf3e9385aebb866dbca643557f5c348c499b43a1b3a494b5", func := "loop.example/g01132/laws.FnExactLeastRing", spec := "fnExactLeastRing", unfollowed := true, recurses := true, apart := false }
def FnExactLeastRingSaid : Prop := fnExactLeastRingRow.holds Try.pinned (OpenSpec.ofChange fnExactLeastRingSpec)

/-- ITS FALSE NEIGHBOUR: 'it returns false'. Refute it at one input. -/
def fnExactLeastRingWrong : ChangeSpec := { name := "fnExactLeastRing", fn := fun _ => fun
  | [d] => { results := [.lit (.bool false)], args := [d] }
  | _ => none }
def FnExactLeastRingWrongFalsely : Prop := fnExactLeastRingRow.holds Try.pinned (OpenSpec.ofChange fnExactLeastRingWrong)

/-- 'laws.FnExactCharacteristicPolynomial': WHATEVER THE INPUT: true; the input reads as it did. -/
def fnExactCharacteristicPolynomialSpec : ChangeSpec := { name := "fnExactCharacteristicPolynomial", fn := fun _ => fun
  | [d] => { results := [.lit (.bool true)], args := [d] }
  | _ => none }
def fnExactCharacteristicPolynomialRow : OpenClaim := { program := "ytaffiohdjkbkkaa", sum := "44278ef66f9aa3feaf3e9385aebb866dbca643557f5c348c499b43a1b3a494b5", func := "loop.example/g01132/laws.FnExactCharacteristicPolynomial", spec := "fnExactCharacteristicPolynomial", unfollowed := true, recurses := true, apart := false }
def FnExactCharacteristicPolynomialSaid : Prop := fnExactCharacteristicPolynomialRow.holds Try.pinned (OpenSpec.ofChange fnExactCharacteristicPolynomialSpec)

/-- ITS FALSE NEIGHBOUR: 'it returns false'. Refute it at one input. -/
def fnExactCharacteristicPolynomialWrong : ChangeSpec := { name := "fnExactCharacteristicPolynomial", fn := fun _ => fun
  | [d] => { results := [.lit (.bool false)], args := [d] }
  | _ => none }
def FnExactCharacteristicPolynomialWrongFalsely : Prop := fnExactCharacteristicPolynomialRow.holds Try.pinned (OpenSpec.ofChange fnExactCharacteristicPolynomialWrong)

/-- 'laws.FnRings': WHATEVER THE INPUT: true; the input reads as it did. -/
def fnRingsSpec : ChangeSpec := { name := "fnRings", fn := fun _ => fun
  | [d] => { results := [.lit (.bool true)], args := [d] }
  | _ => none }
def fnRingsRow : OpenClaim := { program := "ytaffiohdjkbkkaa", sum := "44278ef66f9aa3feaf3e9385aebb866dbca643557f5c348c499b43a1b3a494b5", func := "loop.example/g01132/laws.FnRings", spec := "fnRings", unfollowed := true, recurses := true, apart := false }
def FnRingsSaid : Prop := fnRingsRow.holds Try.pinned (OpenSpec.ofChange fnRingsSpec)

/-- ITS FALSE NEIGHBOUR: 'it returns false'. Refute it at one input. -/
def fnRingsWrong : ChangeSpec := { name := "fnRings", fn := fun _ => fun
  | [d] => { results := [.lit (.bool false)], args := [d] }
  | _ => none }
def FnRingsWrongFalsely : Prop := fnRingsRow.holds Try.pinned (OpenSpec.ofChange fnRingsWrong)

/-- 'laws.FnRingKinds': WHATEVER THE INPUT: true; the input reads as it did. -/
def fnRingKindsSpec : ChangeSpec := { name := "fnRingKinds", fn := fun _ => fun
  | [d] => { results := [.lit (.bool true)], args := [d] }
  | _ => none }
def fnRingKindsRow : OpenClaim := { program := "ytaffiohdjkbkkaa", sum := "44278ef66f9aa3feaf3e9385aebb866dbca643557f5c348c499b43a1b3a494b5", func := "loop.example/g01132/laws.FnRingKinds", spec := "fnRingKinds", unfollowed := true, recurses := true, apart := false }
def FnRingKindsSaid : Prop := fnRingKindsRow.holds Try.pinned (OpenSpec.ofChange fnRingKindsSpec)

/-- ITS FALSE NEIGHBOUR: 'it returns false'. Refute it at one input. -/
def fnRingKindsWrong : ChangeSpec := { name := "fnRingKinds", fn := fun _ => fun
  | [d] => { results := [.lit (.bool false)], args := [d] }
  | _ => none }
def FnRingKindsWrongFalsely : Prop := fnRingKindsRow.holds Try.pinned (OpenSpec.ofChange fnRingKindsWrong)

/- THE SECOND FORM. 'bulk': how many values and letters a reading holds, each counted each time it is reached (what is shared counts as often as it is met; a slice's spare places count too). A statement '..UptoSaid' is the law's where the arguments, and the package variables that the reading takes, are together of bulk at most 1048576: NARROWER than '..Said'. Prove '..Said' where nothing that the law and all that it calls make is longer than what came in: it says more and counts as full. Else prove '..UptoSaid'. A law counts once. -/
mutual
def uptoBulk {H : Type} : DataW H → Nat
  | .lit (.string bytes) => bytes.length + 1
  | .lit _ => 1
  | .nil => 1
  | .ptr d => uptoBulk d + 1
  | .slice elems spare => uptoBulkAll elems + uptoBulkAll spare + 1
  | .agg parts => uptoBulkAll parts + 1
  | .iface _ d => uptoBulk d + 1
  | .map entries => uptoBulkEntries entries + 1
  | .held _ => 1
def uptoBulkAll {H : Type} : List (DataW H) → Nat
  | [] => 0
  | d :: r => uptoBulk d + uptoBulkAll r
def uptoBulkEntries {H : Type} : List (Lit × DataW H) → Nat
  | [] => 0
  | x :: r => uptoBulkEntry x + uptoBulkEntries r
def uptoBulkEntry {H : Type} : Lit × DataW H → Nat
  | (.string bytes, d) => bytes.length + uptoBulk d + 1
  | (_, d) => uptoBulk d + 1
 end
def uptoSmall : (H : Type) → List (DataW H) → Bool := fun _ ds => decide (uptoBulkAll ds ≤ 1048576)
def OpenSpec.upto (s : _root_.Go.ChangeSpec) : _root_.Go.OpenSpec := { _root_.Go.OpenSpec.ofChange s with cond := some uptoSmall }

/-- 'laws.FnExactCommonSpace', WHERE WHAT IT READS IS OF BULK AT MOST 1048576: true; the input reads as it did. -/
def fnExactCommonSpaceUptoRow : OpenClaim := { program := "ytaffiohdjkbkkaa", sum := "44278ef66f9aa3feaf3e9385aebb866dbca643557f5c348c499b43a1b3a494b5", func := "loop.example/g01132/laws.FnExactCommonSpace", spec := "fnExactCommonSpace", unfollowed := true, recurses := true, apart := false, narrowed := true }
def FnExactCommonSpaceUptoSaid : Prop := fnExactCommonSpaceUptoRow.holds Try.pinned (OpenSpec.upto fnExactCommonSpaceSpec)

/-- 'laws.FnExactOppositeRing', WHERE WHAT IT READS IS OF BULK AT MOST 1048576: true; the input reads as it did. -/
def fnExactOppositeRingUptoRow : OpenClaim := { program := "ytaffiohdjkbkkaa", sum := "44278ef66f9aa3feaf3e9385aebb866dbca643557f5c348c499b43a1b3a494b5", func := "loop.example/g01132/laws.FnExactOppositeRing", spec := "fnExactOppositeRing", unfollowed := true, recurses := true, apart := false, narrowed := true }
def FnExactOppositeRingUptoSaid : Prop := fnExactOppositeRingUptoRow.holds Try.pinned (OpenSpec.upto fnExactOppositeRingSpec)

/-- 'laws.FnExactRingIsomorphism', WHERE WHAT IT READS IS OF BULK AT MOST 1048576: true; the input reads as it did. -/
def fnExactRingIsomorphismUptoRow : OpenClaim := { program := "ytaffiohdjkbkkaa", sum := "44278ef66f9aa3feaf3e9385aebb866dbca643557f5c348c499b43a1b3a494b5", func := "loop.example/g01132/laws.FnExactRingIsomorphism", spec := "fnExactRingIsomorphism", unfollowed := true, recurses := true, apart := false, narrowed := true }
def FnExactRingIsomorphismUptoSaid : Prop := fnExactRingIsomorphismUptoRow.holds Try.pinned (OpenSpec.upto fnExactRingIsomorphismSpec)

/-- 'laws.FnExactCountRingAutomorphisms', WHERE WHAT IT READS IS OF BULK AT MOST 1048576: true; the input reads as it did. -/
def fnExactCountRingAutomorphismsUptoRow : OpenClaim := { program := "ytaffiohdjkbkkaa", sum := "44278ef66f9aa3feaf3e9385aebb866dbca643557f5c348c499b43a1b3a494b5", func := "loop.example/g01132/laws.FnExactCountRingAutomorphisms", spec := "fnExactCountRingAutomorphisms", unfollowed := true, recurses := true, apart := false, narrowed := true }
def FnExactCountRingAutomorphismsUptoSaid : Prop := fnExactCountRingAutomorphismsUptoRow.holds Try.pinned (OpenSpec.upto fnExactCountRingAutomorphismsSpec)

/-- 'laws.FnExactLeastRing', WHERE WHAT IT READS IS OF BULK AT MOST 1048576: true; the input reads as it did. -/
def fnExactLeastRingUptoRow : OpenClaim := { program := "ytaffiohdjkbkkaa", sum := "44278ef66f9aa3feaf3e9385aebb866dbca643557f5c348c499b43a1b3a494b5", func := "loop.example/g01132/laws.FnExactLeastRing", spec := "fnExactLeastRing", unfollowed := true, recurses := true, apart := false, narrowed := true }
def FnExactLeastRingUptoSaid : Prop := fnExactLeastRingUptoRow.holds Try.pinned (OpenSpec.upto fnExactLeastRingSpec)

/-- 'laws.FnExactCharacteristicPolynomial', WHERE WHAT IT READS IS OF BULK AT MOST 1048576: true; the input reads as it did. -/
def fnExactCharacteristicPolynomialUptoRow : OpenClaim := { program := "ytaffiohdjkbkkaa", sum := "44278ef66f9aa3feaf3e9385aebb866dbca643557f5c348c499b43a1b3a494b5", func := "loop.example/g01132/laws.FnExactCharacteristicPolynomial", spec := "fnExactCharacteristicPolynomial", unfollowed := true, recurses := true, apart := false, narrowed := true }
def FnExactCharacteristicPolynomialUptoSaid : Prop := fnExactCharacteristicPolynomialUptoRow.holds Try.pinned (OpenSpec.upto fnExactCharacteristicPolynomialSpec)

/-- 'laws.FnRings', WHERE WHAT IT READS IS OF BULK AT MOST 1048576: true; the input reads as it did. -/
def fnRingsUptoRow : OpenClaim := { program := "ytaffiohdjkbkkaa", sum := "44278ef66f9aa3feaf3e9385aebb866dbca643557f5c348c499b43a1b3a494b5", func := "loop.example/g01132/laws.FnRings", spec := "fnRings", unfollowed := true, recurses := true, apart := false, narrowed := true }
def FnRingsUptoSaid : Prop := fnRingsUptoRow.holds Try.pinned (OpenSpec.upto fnRingsSpec)

/-- 'laws.FnRingKinds', WHERE WHAT IT READS IS OF BULK AT MOST 1048576: true; the input reads as it did. -/
def fnRingKindsUptoRow : OpenClaim := { program := "ytaffiohdjkbkkaa", sum := "44278ef66f9aa3feaf3e9385aebb866dbca643557f5c348c499b43a1b3a494b5", func := "loop.example/g01132/laws.FnRingKinds", spec := "fnRingKinds", unfollowed := true, recurses := true, apart := false, narrowed := true }
def FnRingKindsUptoSaid : Prop := fnRingKindsUptoRow.holds Try.pinned (OpenSpec.upto fnRingKindsSpec)

end Rows
end Go.Proofs.Ytaffiohdjkbkkaa
