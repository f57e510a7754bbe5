/-
  No cell of these rows narrows 'for every input' (looked for: loops, veiled, ifaces, maps, wideKeys, modest, calm, conditions, laid).
  DERIVED. THE GIVEN ROWS OF THIS SEAT. 3 by the template 'for every input the law returns true; each argument reads behind the call as it read before'; 0 by the template 'total and deterministic' (their statements: YtjmkmcabpjmkgabTotals.lean).
  GIVEN WITH THE SEED: the statements are not yours to turn. If you find one false, say at which input.
  Laid BY PROGRAM, IN A SANDBOX (cutbox-rows.mjs): the forced cells as the released guide's own fill.sh prints them over the translation 82f7d8d1b87030ad… (all of the seat's roots in one cut). By AI agents, Wed Nov 11 2026. No macro, syntax, notation, axiom, sorry.
-/
import Derived.Test.YtjmkmcabpjmkgabChecked
import GoSem.Claim
import GoSem.ClaimJoined
import GoSem.ClaimMapViews
import Derived.JoinedTies
import Derived.KernelRfl
namespace Go.Proofs.Ytjmkmcabpjmkgab
/- THE CELL 'sum', in the pinned program and in every row, IS THE sha256 OF THE DUMP (.gsa) THAT YtjmkmcabpjmkgabProg.lean LOADS. Nothing in Lean hashes anything: it is a label: what it is worth is what the hold of that sum in a sandbox is worth. -/
noncomputable def Try.pinned : Pinned := { name := "ytjmkmcabpjmkgab", sum := "82f7d8d1b87030ad6a144951337475474946ce9ab8a0fd407d6bdc75dbfd8d4c", checked := Try.checked }
namespace Rows
def none {H : Type} : Left H := { results := [], args := [] }

/-- 'laws.FnExactRootOfUnity': WHATEVER THE INPUT: true; the input reads as it did. -/
def fnExactRootOfUnitySpec : ChangeSpec := { name := "fnExactRootOfUnity", fn := fun _ => fun
  | [d] => { results := [.lit (.bool true)], args := [d] }
  | _ => none }
def fnExactRootOfUnityRow : OpenClaim := { program := "ytjmkmcabpjmkgab", sum := "82f7d8d1b87030ad6a144951337475474946ce9ab8a0fd407d6bdc75dbfd8d4c", func := "loop.example/g01132/laws.FnExactRootOfUnity", spec := "fnExactRootOfUnity", apart := false }
def FnExactRootOfUnitySaid : Prop := fnExactRootOfUnityRow.holds Try.pinned (OpenSpec.ofChange fnExactRootOfUnitySpec)

/-- ITS FALSE NEIGHBOUR: 'it returns false'. Refute it at one input. -/
def fnExactRootOfUnityWrong : ChangeSpec := { name := "fnExactRootOfUnity", fn := fun _ => fun
  | [d] => { results := [.lit (.bool false)], args := [d] }
  | _ => none }
def FnExactRootOfUnityWrongFalsely : Prop := fnExactRootOfUnityRow.holds Try.pinned (OpenSpec.ofChange fnExactRootOfUnityWrong)

/-- 'laws.FnExactShortFraction': WHATEVER THE INPUT: true; the input reads as it did. -/
def fnExactShortFractionSpec : ChangeSpec := { name := "fnExactShortFraction", fn := fun _ => fun
  | [d] => { results := [.lit (.bool true)], args := [d] }
  | _ => none }
def fnExactShortFractionRow : OpenClaim := { program := "ytjmkmcabpjmkgab", sum := "82f7d8d1b87030ad6a144951337475474946ce9ab8a0fd407d6bdc75dbfd8d4c", func := "loop.example/g01132/laws.FnExactShortFraction", spec := "fnExactShortFraction", apart := false }
def FnExactShortFractionSaid : Prop := fnExactShortFractionRow.holds Try.pinned (OpenSpec.ofChange fnExactShortFractionSpec)

/-- ITS FALSE NEIGHBOUR: 'it returns false'. Refute it at one input. -/
def fnExactShortFractionWrong : ChangeSpec := { name := "fnExactShortFraction", fn := fun _ => fun
  | [d] => { results := [.lit (.bool false)], args := [d] }
  | _ => none }
def FnExactShortFractionWrongFalsely : Prop := fnExactShortFractionRow.holds Try.pinned (OpenSpec.ofChange fnExactShortFractionWrong)

/-- 'laws.FnExactDotOf': WHATEVER THE INPUT: true; the input reads as it did. -/
def fnExactDotOfSpec : ChangeSpec := { name := "fnExactDotOf", fn := fun _ => fun
  | [d1, d2] => { results := [.lit (.bool true)], args := [d1, d2] }
  | _ => none }
def fnExactDotOfRow : OpenClaim := { program := "ytjmkmcabpjmkgab", sum := "82f7d8d1b87030ad6a144951337475474946ce9ab8a0fd407d6bdc75dbfd8d4c", func := "loop.example/g01132/laws.FnExactDotOf", spec := "fnExactDotOf", apart := false }
def FnExactDotOfSaid : Prop := fnExactDotOfRow.holds Try.pinned (OpenSpec.ofChange fnExactDotOfSpec)

/-- ITS FALSE NEIGHBOUR: 'it returns false'. Refute it at one input. -/
def fnExactDotOfWrong : ChangeSpec := { name := "fnExactDotOf", fn := fun _ => fun
  | [d1, d2] => { results := [.lit (.bool false)], args := [d1, d2] }
  | _ => none }
def FnExactDotOfWrongFalsely : Prop := fnExactDotOfRow.holds Try.pinned (OpenSpec.ofChange fnExactDotOfWrong)

/- THE SECOND FORM. 'bulk': how many values and letters a reading holds, each counted each time it is reached (what is shared counts as often as it is met; a slice's spare places count too). A statement '..UptoSaid' is the law's where the arguments, and the package variables that the reading takes, are together of bulk at most 1048576: NARROWER than '..Said'. Prove '..Said' where nothing that the law and all that it calls make is longer than what came in: it says more and counts as full. Else prove '..UptoSaid'. A law counts once. -/
mutual
def uptoBulk {H : Type} : DataW H → Nat
  | .lit (.string bytes) => bytes.length + 1
  | .lit _ => 1
  | .nil => 1
  | .ptr d => uptoBulk d + 1
  | .slice elems spare => uptoBulkAll elems + uptoBulkAll spare + 1
  | .agg parts => uptoBulkAll parts + 1
  | .iface _ d => uptoBulk d + 1
  | .map entries => uptoBulkEntries entries + 1
  | .held _ => 1
def uptoBulkAll {H : Type} : List (DataW H) → Nat
  | [] => 0
  | d :: r => uptoBulk d + uptoBulkAll r
def uptoBulkEntries {H : Type} : List (Lit × DataW H) → Nat
  | [] => 0
  | x :: r => uptoBulkEntry x + uptoBulkEntries r
def uptoBulkEntry {H : Type} : Lit × DataW H → Nat
  | (.string bytes, d) => bytes.length + uptoBulk d + 1
  | (_, d) => uptoBulk d + 1
 end
def uptoSmall : (H : Type) → List (DataW H) → Bool := fun _ ds => decide (uptoBulkAll ds ≤ 1048576)
def OpenSpec.upto (s : _root_.Go.ChangeSpec) : _root_.Go.OpenSpec := { _root_.Go.OpenSpec.ofChange s with cond := some uptoSmall }

/-- 'laws.FnExactRootOfUnity', WHERE WHAT IT READS IS OF BULK AT MOST 1048576: true; the input reads as it did. -/
def fnExactRootOfUnityUptoRow : OpenClaim := { program := "ytjmkmcabpjmkgab", sum := "82f7d8d1b87030ad6a144951337475474946ce9ab8a0fd407d6bdc75dbfd8d4c", func := "loop.example/g01132/laws.FnExactRootOfUnity", spec := "fnExactRootOfUnity", apart := false, narrowed := true }
def FnExactRootOfUnityUptoSaid : Prop := fnExactRootOfUnityUptoRow.holds Try.pinned (OpenSpec.upto fnExactRootOfUnitySpec)

/-- 'laws.FnExactShortFraction', WHERE WHAT IT READS IS OF BULK AT MOST 1048576: true; the input reads as it did. -/
def fnExactShortFractionUptoRow : OpenClaim := { program := "ytjmkmcabpjmkgab", sum := "82f7d8d1b87030ad6a144951337475474946ce9ab8a0fd407d6bdc75dbfd8d4c", func := "loop.example/g01132/laws.FnExactShortFraction", spec := "fnExactShortFraction", apart := false, narrowed := true }
def FnExactShortFractionUptoSaid : Prop := fnExactShortFractionUptoRow.holds Try.pinned (OpenSpec.upto fnExactShortFractionSpec)

/-- 'laws.FnExactDotOf', WHERE WHAT IT READS IS OF BULK AT MOST 1048576: true; the input reads as it did. -/
def fnExactDotOfUptoRow : OpenClaim := { program := "ytjmkmcabpjmkgab", sum := "82f7d8d1b87030ad6a144951337475474946ce9ab8a0fd407d6bdc75dbfd8d4c", func := "loop.example/g01132/laws.FnExactDotOf", spec := "fnExactDotOf", apart := false, narrowed := true }
def FnExactDotOfUptoSaid : Prop := fnExactDotOfUptoRow.holds Try.pinned (OpenSpec.upto fnExactDotOfSpec)

end Rows
end Go.Proofs.Ytjmkmcabpjmkgab
