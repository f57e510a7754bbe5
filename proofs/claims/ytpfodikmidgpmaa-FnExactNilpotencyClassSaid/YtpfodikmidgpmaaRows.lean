/-
  No cell of these rows narrows 'for every input' (looked for: loops, veiled, ifaces, maps, wideKeys, modest, calm, conditions, laid).
  DERIVED. THE GIVEN ROWS OF THIS SEAT. 11 by the template 'for every input the law returns true; each argument reads behind the call as it read before'; 0 by the template 'total and deterministic' (their statements: YtpfodikmidgpmaaTotals.lean).
  GIVEN WITH THE SEED: the statements are not yours to turn. If you find one false, say at which input.
  Laid BY PROGRAM, IN A SANDBOX (cutbox-rows.mjs): the forced cells as the released guide's own fill.sh prints them over the translation e2c0e533b620e94d… (all of the seat's roots in one cut). By AI agents, Wed Nov 11 2026. No macro, syntax, notation, axiom, sorry.
-/
import Derived.Test.YtpfodikmidgpmaaChecked
import GoSem.Claim
import GoSem.ClaimJoined
import GoSem.ClaimMapViews
import Derived.JoinedTies
import Derived.KernelRfl
namespace Go.Proofs.Ytpfodikmidgpmaa
/- THE CELL 'sum', in the pinned program and in every row, IS THE sha256 OF THE DUMP (.gsa) THAT YtpfodikmidgpmaaProg.lean LOADS. Nothing in Lean hashes anything: it is a label: what it is worth is what the hold of that sum in a sandbox is worth. -/
noncomputable def Try.pinned : Pinned := { name := "ytpfodikmidgpmaa", sum := "e2c0e533b620e94dd06432adc0122b164ae6ab16880408e850faa8d13d6b5740", checked := Try.checked }
namespace Rows
def none {H : Type} : Left H := { results := [], args := [] }

/-- 'laws.FnExactIsSubring': WHATEVER THE INPUT: true; the input reads as it did. -/
def fnExactIsSubringSpec : ChangeSpec := { name := "fnExactIsSubring", fn := fun _ => fun
  | [d1, d2] => { results := [.lit (.bool true)], args := [d1, d2] }
  | _ => none }
def fnExactIsSubringRow : OpenClaim := { program := "ytpfodikmidgpmaa", sum := "e2c0e533b620e94dd06432adc0122b164ae6ab16880408e850faa8d13d6b5740", func := "loop.example/g01132/laws.FnExactIsSubring", spec := "fnExactIsSubring", unfollowed := true, recurses := true, apart := false }
def FnExactIsSubringSaid : Prop := fnExactIsSubringRow.holds Try.pinned (OpenSpec.ofChange fnExactIsSubringSpec)

/-- ITS FALSE NEIGHBOUR: 'it returns false'. Refute it at one input. -/
def fnExactIsSubringWrong : ChangeSpec := { name := "fnExactIsSubring", fn := fun _ => fun
  | [d1, d2] => { results := [.lit (.bool false)], args := [d1, d2] }
  | _ => none }
def FnExactIsSubringWrongFalsely : Prop := fnExactIsSubringRow.holds Try.pinned (OpenSpec.ofChange fnExactIsSubringWrong)

/-- 'laws.FnExactSubringFrom': WHATEVER THE INPUT: true; the input reads as it did. -/
def fnExactSubringFromSpec : ChangeSpec := { name := "fnExactSubringFrom", fn := fun _ => fun
  | [d1, d2] => { results := [.lit (.bool true)], args := [d1, d2] }
  | _ => none }
def fnExactSubringFromRow : OpenClaim := { program := "ytpfodikmidgpmaa", sum := "e2c0e533b620e94dd06432adc0122b164ae6ab16880408e850faa8d13d6b5740", func := "loop.example/g01132/laws.FnExactSubringFrom", spec := "fnExactSubringFrom", unfollowed := true, recurses := true, apart := false }
def FnExactSubringFromSaid : Prop := fnExactSubringFromRow.holds Try.pinned (OpenSpec.ofChange fnExactSubringFromSpec)

/-- ITS FALSE NEIGHBOUR: 'it returns false'. Refute it at one input. -/
def fnExactSubringFromWrong : ChangeSpec := { name := "fnExactSubringFrom", fn := fun _ => fun
  | [d1, d2] => { results := [.lit (.bool false)], args := [d1, d2] }
  | _ => none }
def FnExactSubringFromWrongFalsely : Prop := fnExactSubringFromRow.holds Try.pinned (OpenSpec.ofChange fnExactSubringFromWrong)

/-- 'laws.FnExactSubringsOf': WHATEVER THE INPUT: true; the input reads as it did. -/
def fnExactSubringsOfSpec : ChangeSpec := { name := "fnExactSubringsOf", fn := fun _ => fun
  | [d] => { results := [.lit (.bool true)], args := [d] }
  | _ => none }
def fnExactSubringsOfRow : OpenClaim := { program := "ytpfodikmidgpmaa", sum := "e2c0e533b620e94dd06432adc0122b164ae6ab16880408e850faa8d13d6b5740", func := "loop.example/g01132/laws.FnExactSubringsOf", spec := "fnExactSubringsOf", unfollowed := true, recurses := true, apart := false }
def FnExactSubringsOfSaid : Prop := fnExactSubringsOfRow.holds Try.pinned (OpenSpec.ofChange fnExactSubringsOfSpec)

/-- ITS FALSE NEIGHBOUR: 'it returns false'. Refute it at one input. -/
def fnExactSubringsOfWrong : ChangeSpec := { name := "fnExactSubringsOf", fn := fun _ => fun
  | [d] => { results := [.lit (.bool false)], args := [d] }
  | _ => none }
def FnExactSubringsOfWrongFalsely : Prop := fnExactSubringsOfRow.holds Try.pinned (OpenSpec.ofChange fnExactSubringsOfWrong)

/-- 'laws.FnExactRingOfSubring': WHATEVER THE INPUT: true; the input reads as it did. -/
def fnExactRingOfSubringSpec : ChangeSpec := { name := "fnExactRingOfSubring", fn := fun _ => fun
  | [d1, d2] => { results := [.lit (.bool true)], args := [d1, d2] }
  | _ => none }
def fnExactRingOfSubringRow : OpenClaim := { program := "ytpfodikmidgpmaa", sum := "e2c0e533b620e94dd06432adc0122b164ae6ab16880408e850faa8d13d6b5740", func := "loop.example/g01132/laws.FnExactRingOfSubring", spec := "fnExactRingOfSubring", unfollowed := true, recurses := true, apart := false }
def FnExactRingOfSubringSaid : Prop := fnExactRingOfSubringRow.holds Try.pinned (OpenSpec.ofChange fnExactRingOfSubringSpec)

/-- ITS FALSE NEIGHBOUR: 'it returns false'. Refute it at one input. -/
def fnExactRingOfSubringWrong : ChangeSpec := { name := "fnExactRingOfSubring", fn := fun _ => fun
  | [d1, d2] => { results := [.lit (.bool false)], args := [d1, d2] }
  | _ => none }
def FnExactRingOfSubringWrongFalsely : Prop := fnExactRingOfSubringRow.holds Try.pinned (OpenSpec.ofChange fnExactRingOfSubringWrong)

/-- 'laws.FnExactAdjointOf': WHATEVER THE INPUT: true; the input reads as it did. -/
def fnExactAdjointOfSpec : ChangeSpec := { name := "fnExactAdjointOf", fn := fun _ => fun
  | [d] => { results := [.lit (.bool true)], args := [d] }
  | _ => none }
def fnExactAdjointOfRow : OpenClaim := { program := "ytpfodikmidgpmaa", sum := "e2c0e533b620e94dd06432adc0122b164ae6ab16880408e850faa8d13d6b5740", func := "loop.example/g01132/laws.FnExactAdjointOf", spec := "fnExactAdjointOf", unfollowed := true, recurses := true, apart := false }
def FnExactAdjointOfSaid : Prop := fnExactAdjointOfRow.holds Try.pinned (OpenSpec.ofChange fnExactAdjointOfSpec)

/-- ITS FALSE NEIGHBOUR: 'it returns false'. Refute it at one input. -/
def fnExactAdjointOfWrong : ChangeSpec := { name := "fnExactAdjointOf", fn := fun _ => fun
  | [d] => { results := [.lit (.bool false)], args := [d] }
  | _ => none }
def FnExactAdjointOfWrongFalsely : Prop := fnExactAdjointOfRow.holds Try.pinned (OpenSpec.ofChange fnExactAdjointOfWrong)

/-- 'laws.FnExactAdjointSeries': WHATEVER THE INPUT: true; the input reads as it did. -/
def fnExactAdjointSeriesSpec : ChangeSpec := { name := "fnExactAdjointSeries", fn := fun _ => fun
  | [d] => { results := [.lit (.bool true)], args := [d] }
  | _ => none }
def fnExactAdjointSeriesRow : OpenClaim := { program := "ytpfodikmidgpmaa", sum := "e2c0e533b620e94dd06432adc0122b164ae6ab16880408e850faa8d13d6b5740", func := "loop.example/g01132/laws.FnExactAdjointSeries", spec := "fnExactAdjointSeries", unfollowed := true, recurses := true, apart := false }
def FnExactAdjointSeriesSaid : Prop := fnExactAdjointSeriesRow.holds Try.pinned (OpenSpec.ofChange fnExactAdjointSeriesSpec)

/-- ITS FALSE NEIGHBOUR: 'it returns false'. Refute it at one input. -/
def fnExactAdjointSeriesWrong : ChangeSpec := { name := "fnExactAdjointSeries", fn := fun _ => fun
  | [d] => { results := [.lit (.bool false)], args := [d] }
  | _ => none }
def FnExactAdjointSeriesWrongFalsely : Prop := fnExactAdjointSeriesRow.holds Try.pinned (OpenSpec.ofChange fnExactAdjointSeriesWrong)

/-- 'laws.FnExactNilpotencyClass': WHATEVER THE INPUT: true; the input reads as it did. -/
def fnExactNilpotencyClassSpec : ChangeSpec := { name := "fnExactNilpotencyClass", fn := fun _ => fun
  | [d] => { results := [.lit (.bool true)], args := [d] }
  | _ => none }
def fnExactNilpotencyClassRow : OpenClaim := { program := "ytpfodikmidgpmaa", sum := "e2c0e533b620e94dd06432adc0122b164ae6ab16880408e850faa8d13d6b5740", func := "loop.example/g01132/laws.FnExactNilpotencyClass", spec := "fnExactNilpotencyClass", unfollowed := true, recurses := true, apart := false }
def FnExactNilpotencyClassSaid : Prop := fnExactNilpotencyClassRow.holds Try.pinned (OpenSpec.ofChange fnExactNilpotencyClassSpec)

/-- ITS FALSE NEIGHBOUR: 'it returns false'. Refute it at one input. -/
def fnExactNilpotencyClassWrong : ChangeSpec := { name := "fnExactNilpotencyClass", fn := fun _ => fun
  | [d] => { results := [.lit (.bool false)], args := [d] }
  | _ => none }
def FnExactNilpotencyClassWrongFalsely : Prop := fnExactNilpotencyClassRow.holds Try.pinned (OpenSpec.ofChange fnExactNilpotencyClassWrong)

/-- 'laws.FnExactComponentsOf': WHATEVER THE INPUT: true; the input reads as it did. -/
def fnExactComponentsOfSpec : ChangeSpec := { name := "fnExactComponentsOf", fn := fun _ => fun
  | [d] => { results := [.lit (.bool true)], args := [d] }
  | _ => none }
def fnExactComponentsOfRow : OpenClaim := { program := "ytpfodikmidgpmaa", sum := "e2c0e533b620e94dd06432adc0122b164ae6ab16880408e850faa8d13d6b5740", func := "loop.example/g01132/laws.FnExactComponentsOf", spec := "fnExactComponentsOf", unfollowed := true, recurses := true, apart := false }
def FnExactComponentsOfSaid : Prop := fnExactComponentsOfRow.holds Try.pinned (OpenSpec.ofChange fnExactComponentsOfSpec)

/-- ITS FALSE NEIGHBOUR: 'it returns false'. Refute it at one input. -/
def fnExactComponentsOfWrong : ChangeSpec := { name := "fnExactComponentsOf", fn := fun _ => fun
  | [d] => { results := [.lit (.bool false)], args := [d] }
  | _ => none }
def FnExactComponentsOfWrongFalsely : Prop := fnExactComponentsOfRow.holds Try.pinned (OpenSpec.ofChange fnExactComponentsOfWrong)

/-- 'laws.FnExactCosetsOf': WHATEVER THE INPUT: true; the input reads as it did. -/
def fnExactCosetsOfSpec : ChangeSpec := { name := "fnExactCosetsOf", fn := fun _ => fun
  | [d1, d2] => { results := [.lit (.bool true)], args := [d1, d2] }
  | _ => none }
def fnExactCosetsOfRow : OpenClaim := { program := "ytpfodikmidgpmaa", sum := "e2c0e533b620e94dd06432adc0122b164ae6ab16880408e850faa8d13d6b5740", func := "loop.example/g01132/laws.FnExactCosetsOf", spec := "fnExactCosetsOf", unfollowed := true, recurses := true, apart := false }
def FnExactCosetsOfSaid : Prop := fnExactCosetsOfRow.holds Try.pinned (OpenSpec.ofChange fnExactCosetsOfSpec)

/-- ITS FALSE NEIGHBOUR: 'it returns false'. Refute it at one input. -/
def fnExactCosetsOfWrong : ChangeSpec := { name := "fnExactCosetsOf", fn := fun _ => fun
  | [d1, d2] => { results := [.lit (.bool false)], args := [d1, d2] }
  | _ => none }
def FnExactCosetsOfWrongFalsely : Prop := fnExactCosetsOfRow.holds Try.pinned (OpenSpec.ofChange fnExactCosetsOfWrong)

/-- 'laws.FnExactIsSimpleRing': WHATEVER THE INPUT: true; the input reads as it did. -/
def fnExactIsSimpleRingSpec : ChangeSpec := { name := "fnExactIsSimpleRing", fn := fun _ => fun
  | [d] => { results := [.lit (.bool true)], args := [d] }
  | _ => none }
def fnExactIsSimpleRingRow : OpenClaim := { program := "ytpfodikmidgpmaa", sum := "e2c0e533b620e94dd06432adc0122b164ae6ab16880408e850faa8d13d6b5740", func := "loop.example/g01132/laws.FnExactIsSimpleRing", spec := "fnExactIsSimpleRing", unfollowed := true, recurses := true, apart := false }
def FnExactIsSimpleRingSaid : Prop := fnExactIsSimpleRingRow.holds Try.pinned (OpenSpec.ofChange fnExactIsSimpleRingSpec)

/-- ITS FALSE NEIGHBOUR: 'it returns false'. Refute it at one input. -/
def fnExactIsSimpleRingWrong : ChangeSpec := { name := "fnExactIsSimpleRing", fn := fun _ => fun
  | [d] => { results := [.lit (.bool false)], args := [d] }
  | _ => none }
def FnExactIsSimpleRingWrongFalsely : Prop := fnExactIsSimpleRingRow.holds Try.pinned (OpenSpec.ofChange fnExactIsSimpleRingWrong)

/-- 'laws.FnExactInvertibleSubring': WHATEVER THE INPUT: true; the input reads as it did. -/
def fnExactInvertibleSubringSpec : ChangeSpec := { name := "fnExactInvertibleSubring", fn := fun _ => fun
  | [d] => { results := [.lit (.bool true)], args := [d] }
  | _ => none }
def fnExactInvertibleSubringRow : OpenClaim := { program := "ytpfodikmidgpmaa", sum := "e2c0e533b620e94dd06432adc0122b164ae6ab16880408e850faa8d13d6b5740", func := "loop.example/g01132/laws.FnExactInvertibleSubring", spec := "fnExactInvertibleSubring", unfollowed := true, recurses := true, apart := false }
def FnExactInvertibleSubringSaid : Prop := fnExactInvertibleSubringRow.holds Try.pinned (OpenSpec.ofChange fnExactInvertibleSubringSpec)

/-- ITS FALSE NEIGHBOUR: 'it returns false'. Refute it at one input. -/
def fnExactInvertibleSubringWrong : ChangeSpec := { name := "fnExactInvertibleSubring", fn := fun _ => fun
  | [d] => { results := [.lit (.bool false)], args := [d] }
  | _ => none }
def FnExactInvertibleSubringWrongFalsely : Prop := fnExactInvertibleSubringRow.holds Try.pinned (OpenSpec.ofChange fnExactInvertibleSubringWrong)

/- THE SECOND FORM. 'bulk': how many values and letters a reading holds, each counted each time it is reached (what is shared counts as often as it is met; a slice's spare places count too). A statement '..UptoSaid' is the law's where the arguments, and the package variables that the reading takes, are together of bulk at most 1048576: NARROWER than '..Said'. Prove '..Said' where nothing that the law and all that it calls make is longer than what came in: it says more and counts as full. Else prove '..UptoSaid'. A law counts once. -/
mutual
def uptoBulk {H : Type} : DataW H → Nat
  | .lit (.string bytes) => bytes.length + 1
  | .lit _ => 1
  | .nil => 1
  | .ptr d => uptoBulk d + 1
  | .slice elems spare => uptoBulkAll elems + uptoBulkAll spare + 1
  | .agg parts => uptoBulkAll parts + 1
  | .iface _ d => uptoBulk d + 1
  | .map entries => uptoBulkEntries entries + 1
  | .held _ => 1
def uptoBulkAll {H : Type} : List (DataW H) → Nat
  | [] => 0
  | d :: r => uptoBulk d + uptoBulkAll r
def uptoBulkEntries {H : Type} : List (Lit × DataW H) → Nat
  | [] => 0
  | x :: r => uptoBulkEntry x + uptoBulkEntries r
def uptoBulkEntry {H : Type} : Lit × DataW H → Nat
  | (.string bytes, d) => bytes.length + uptoBulk d + 1
  | (_, d) => uptoBulk d + 1
 end
def uptoSmall : (H : Type) → List (DataW H) → Bool := fun _ ds => decide (uptoBulkAll ds ≤ 1048576)
def OpenSpec.upto (s : _root_.Go.ChangeSpec) : _root_.Go.OpenSpec := { _root_.Go.OpenSpec.ofChange s with cond := some uptoSmall }

/-- 'laws.FnExactIsSubring', WHERE WHAT IT READS IS OF BULK AT MOST 1048576: true; the input reads as it did. -/
def fnExactIsSubringUptoRow : OpenClaim := { program := "ytpfodikmidgpmaa", sum := "e2c0e533b620e94dd06432adc0122b164ae6ab16880408e850faa8d13d6b5740", func := "loop.example/g01132/laws.FnExactIsSubring", spec := "fnExactIsSubring", unfollowed := true, recurses := true, apart := false, narrowed := true }
def FnExactIsSubringUptoSaid : Prop := fnExactIsSubringUptoRow.holds Try.pinned (OpenSpec.upto fnExactIsSubringSpec)

/-- 'laws.FnExactSubringFrom', WHERE WHAT IT READS IS OF BULK AT MOST 1048576: true; the input reads as it did. -/
def fnExactSubringFromUptoRow : OpenClaim := { program := "ytpfodikmidgpmaa", sum := "e2c0e533b620e94dd06432adc0122b164ae6ab16880408e850faa8d13d6b5740", func := "loop.example/g01132/laws.FnExactSubringFrom", spec := "fnExactSubringFrom", unfollowed := true, recurses := true, apart := false, narrowed := true }
def FnExactSubringFromUptoSaid : Prop := fnExactSubringFromUptoRow.holds Try.pinned (OpenSpec.upto fnExactSubringFromSpec)

/-- 'laws.FnExactSubringsOf', WHERE WHAT IT READS IS OF BULK AT MOST 1048576: true; the input reads as it did. -/
def fnExactSubringsOfUptoRow : OpenClaim := { program := "ytpfodikmidgpmaa", sum := "e2c0e533b620e94dd06432adc0122b164ae6ab16880408e850faa8d13d6b5740", func := "loop.example/g01132/laws.FnExactSubringsOf", spec := "fnExactSubringsOf", unfollowed := true, recurses := true, apart := false, narrowed := true }
def FnExactSubringsOfUptoSaid : Prop := fnExactSubringsOfUptoRow.holds Try.pinned (OpenSpec.upto fnExactSubringsOfSpec)

/-- 'laws.FnExactRingOfSubring', WHERE WHAT IT READS IS OF BULK AT MOST 1048576: true; the input reads as it did. -/
def fnExactRingOfSubringUptoRow : OpenClaim := { program := "ytpfodikmidgpmaa", sum := "e2c0e533b620e94dd06432adc0122b164ae6ab16880408e850faa8d13d6b5740", func := "loop.example/g01132/laws.FnExactRingOfSubring", spec := "fnExactRingOfSubring", unfollowed := true, recurses := true, apart := false, narrowed := true }
def FnExactRingOfSubringUptoSaid : Prop := fnExactRingOfSubringUptoRow.holds Try.pinned (OpenSpec.upto fnExactRingOfSubringSpec)

/-- 'laws.FnExactAdjointOf', WHERE WHAT IT READS IS OF BULK AT MOST 1048576: true; the input reads as it did. -/
def fnExactAdjointOfUptoRow : OpenClaim := { program := "ytpfodikmidgpmaa", sum := "e2c0e533b620e94dd06432adc0122b164ae6ab16880408e850faa8d13d6b5740", func := "loop.example/g01132/laws.FnExactAdjointOf", spec := "fnExactAdjointOf", unfollowed := true, recurses := true, apart := false, narrowed := true }
def FnExactAdjointOfUptoSaid : Prop := fnExactAdjointOfUptoRow.holds Try.pinned (OpenSpec.upto fnExactAdjointOfSpec)

/-- 'laws.FnExactAdjointSeries', WHERE WHAT IT READS IS OF BULK AT MOST 1048576: true; the input reads as it did. -/
def fnExactAdjointSeriesUptoRow : OpenClaim := { program := "ytpfodikmidgpmaa", sum := "e2c0e533b620e94dd06432adc0122b164ae6ab16880408e850faa8d13d6b5740", func := "loop.example/g01132/laws.FnExactAdjointSeries", spec := "fnExactAdjointSeries", unfollowed := true, recurses := true, apart := false, narrowed := true }
def FnExactAdjointSeriesUptoSaid : Prop := fnExactAdjointSeriesUptoRow.holds Try.pinned (OpenSpec.upto fnExactAdjointSeriesSpec)

/-- 'laws.FnExactNilpotencyClass', WHERE WHAT IT READS IS OF BULK AT MOST 1048576: true; the input reads as it did. -/
def fnExactNilpotencyClassUptoRow : OpenClaim := { program := "ytpfodikmidgpmaa", sum := "e2c0e533b620e94dd06432adc0122b164ae6ab16880408e850faa8d13d6b5740", func := "loop.example/g01132/laws.FnExactNilpotencyClass", spec := "fnExactNilpotencyClass", unfollowed := true, recurses := true, apart := false, narrowed := true }
def FnExactNilpotencyClassUptoSaid : Prop := fnExactNilpotencyClassUptoRow.holds Try.pinned (OpenSpec.upto fnExactNilpotencyClassSpec)

/-- 'laws.FnExactComponentsOf', WHERE WHAT IT READS IS OF BULK AT MOST 1048576: true; the input reads as it did. -/
def fnExactComponentsOfUptoRow : OpenClaim := { program := "ytpfodikmidgpmaa", sum := "e2c0e533b620e94dd06432adc0122b164ae6ab16880408e850faa8d13d6b5740", func := "loop.example/g01132/laws.FnExactComponentsOf", spec := "fnExactComponentsOf", unfollowed := true, recurses := true, apart := false, narrowed := true }
def FnExactComponentsOfUptoSaid : Prop := fnExactComponentsOfUptoRow.holds Try.pinned (OpenSpec.upto fnExactComponentsOfSpec)

/-- 'laws.FnExactCosetsOf', WHERE WHAT IT READS IS OF BULK AT MOST 1048576: true; the input reads as it did. -/
def fnExactCosetsOfUptoRow : OpenClaim := { program := "ytpfodikmidgpmaa", sum := "e2c0e533b620e94dd06432adc0122b164ae6ab16880408e850faa8d13d6b5740", func := "loop.example/g01132/laws.FnExactCosetsOf", spec := "fnExactCosetsOf", unfollowed := true, recurses := true, apart := false, narrowed := true }
def FnExactCosetsOfUptoSaid : Prop := fnExactCosetsOfUptoRow.holds Try.pinned (OpenSpec.upto fnExactCosetsOfSpec)

/-- 'laws.FnExactIsSimpleRing', WHERE WHAT IT READS IS OF BULK AT MOST 1048576: true; the input reads as it did. -/
def fnExactIsSimpleRingUptoRow : OpenClaim := { program := "ytpfodikmidgpmaa", sum := "e2c0e533b620e94dd06432adc0122b164ae6ab16880408e850faa8d13d6b5740", func := "loop.example/g01132/laws.FnExactIsSimpleRing", spec := "fnExactIsSimpleRing", unfollowed := true, recurses := true, apart := false, narrowed := true }
def FnExactIsSimpleRingUptoSaid : Prop := fnExactIsSimpleRingUptoRow.holds Try.pinned (OpenSpec.upto fnExactIsSimpleRingSpec)

/-- 'laws.FnExactInvertibleSubring', WHERE WHAT IT READS IS OF BULK AT MOST 1048576: true; the input reads as it did. -/
def fnExactInvertibleSubringUptoRow : OpenClaim := { program := "ytpfodikmidgpmaa", sum := "e2c0e533b620e94dd06432adc0122b164ae6ab16880408e850faa8d13d6b5740", func := "loop.example/g01132/laws.FnExactInvertibleSubring", spec := "fnExactInvertibleSubring", unfollowed := true, recurses := true, apart := false, narrowed := true }
def FnExactInvertibleSubringUptoSaid : Prop := fnExactInvertibleSubringUptoRow.holds Try.pinned (OpenSpec.upto fnExactInvertibleSubringSpec)

end Rows
end Go.Proofs.Ytpfodikmidgpmaa
