/-
  No cell of these rows narrows 'for every input' (looked for: loops, veiled, ifaces, maps, wideKeys, modest, calm, conditions, laid).
  DERIVED. THE GIVEN ROWS OF THIS SEAT. 9 by the template 'for every input the law returns true; each argument reads behind the call as it read before'; 0 by the template 'total and deterministic' (their statements: YtjmkmcabpjmkgaaTotals.lean).
  GIVEN WITH THE SEED: the statements are not yours to turn. If you find one false, say at which input.
  Laid BY PROGRAM, IN A SANDBOX (cutbox-rows.mjs): the forced cells as the released guide's own fill.sh prints them over the translation 9499d85ab476d1e2… (all of the seat's roots in one cut). By AI agents, Wed Nov 11 2026. No macro, syntax, notation, axiom, sorry.
-/
import Derived.Test.YtjmkmcabpjmkgaaChecked
import GoSem.Claim
import GoSem.ClaimJoined
import GoSem.ClaimMapViews
import Derived.JoinedTies
import Derived.KernelRfl
namespace Go.Proofs.Ytjmkmcabpjmkgaa
/- THE CELL 'sum', in the pinned program and in every row, IS THE sha256 OF THE DUMP (.gsa) THAT YtjmkmcabpjmkgaaProg.lean LOADS. Nothing in Lean hashes anything: it is a label: what it is worth is what the hold of that sum in a sandbox is worth. -/
noncomputable def Try.pinned : Pinned := { name := "ytjmkmcabpjmkgaa", sum := "9499d85ab476d1e2e2c12d304dc1d2f35dea35bf870653f5b9420828c6ff6760", checked := Try.checked }
namespace Rows
def none {H : Type} : Left H := { results := [], args := [] }

/-- 'laws.FnNumbers': WHATEVER THE INPUT: true; the input reads as it did. -/
def fnNumbersSpec : ChangeSpec := { name := "fnNumbers", fn := fun _ => fun
  | [d] => { results := [.lit (.bool true)], args := [d] }
  | _ => none }
def fnNumbersRow : OpenClaim := { program := "ytjmkmcabpjmkgaa", sum := "9499d85ab476d1e2e2c12d304dc1d2f35dea35bf870653f5b9420828c6ff6760", func := "loop.example/g01132/laws.FnNumbers", spec := "fnNumbers", unfollowed := true, recurses := true, apart := false }
def FnNumbersSaid : Prop := fnNumbersRow.holds Try.pinned (OpenSpec.ofChange fnNumbersSpec)

/-- ITS FALSE NEIGHBOUR: 'it returns false'. Refute it at one input. -/
def fnNumbersWrong : ChangeSpec := { name := "fnNumbers", fn := fun _ => fun
  | [d] => { results := [.lit (.bool false)], args := [d] }
  | _ => none }
def FnNumbersWrongFalsely : Prop := fnNumbersRow.holds Try.pinned (OpenSpec.ofChange fnNumbersWrong)

/-- 'laws.FnExactIsNumber': WHATEVER THE INPUT: true; the input reads as it did. -/
def fnExactIsNumberSpec : ChangeSpec := { name := "fnExactIsNumber", fn := fun _ => fun
  | [d] => { results := [.lit (.bool true)], args := [d] }
  | _ => none }
def fnExactIsNumberRow : OpenClaim := { program := "ytjmkmcabpjmkgaa", sum := "9499d85ab476d1e2e2c12d304dc1d2f35dea35bf870653f5b9420828c6ff6760", func := "loop.example/g01132/laws.FnExactIsNumber", spec := "fnExactIsNumber", apart := false }
def FnExactIsNumberSaid : Prop := fnExactIsNumberRow.holds Try.pinned (OpenSpec.ofChange fnExactIsNumberSpec)

/-- ITS FALSE NEIGHBOUR: 'it returns false'. Refute it at one input. -/
def fnExactIsNumberWrong : ChangeSpec := { name := "fnExactIsNumber", fn := fun _ => fun
  | [d] => { results := [.lit (.bool false)], args := [d] }
  | _ => none }
def FnExactIsNumberWrongFalsely : Prop := fnExactIsNumberRow.holds Try.pinned (OpenSpec.ofChange fnExactIsNumberWrong)

/-- 'laws.FnExactFractionNumber': WHATEVER THE INPUT: true; the input reads as it did. -/
def fnExactFractionNumberSpec : ChangeSpec := { name := "fnExactFractionNumber", fn := fun _ => fun
  | [d1, d2] => { results := [.lit (.bool true)], args := [d1, d2] }
  | _ => none }
def fnExactFractionNumberRow : OpenClaim := { program := "ytjmkmcabpjmkgaa", sum := "9499d85ab476d1e2e2c12d304dc1d2f35dea35bf870653f5b9420828c6ff6760", func := "loop.example/g01132/laws.FnExactFractionNumber", spec := "fnExactFractionNumber", unfollowed := true, recurses := true, apart := false }
def FnExactFractionNumberSaid : Prop := fnExactFractionNumberRow.holds Try.pinned (OpenSpec.ofChange fnExactFractionNumberSpec)

/-- ITS FALSE NEIGHBOUR: 'it returns false'. Refute it at one input. -/
def fnExactFractionNumberWrong : ChangeSpec := { name := "fnExactFractionNumber", fn := fun _ => fun
  | [d1, d2] => { results := [.lit (.bool false)], args := [d1, d2] }
  | _ => none }
def FnExactFractionNumberWrongFalsely : Prop := fnExactFractionNumberRow.holds Try.pinned (OpenSpec.ofChange fnExactFractionNumberWrong)

/-- 'laws.FnExactAddNumbers': WHATEVER THE INPUT: true; the input reads as it did. -/
def fnExactAddNumbersSpec : ChangeSpec := { name := "fnExactAddNumbers", fn := fun _ => fun
  | [d1, d2] => { results := [.lit (.bool true)], args := [d1, d2] }
  | _ => none }
def fnExactAddNumbersRow : OpenClaim := { program := "ytjmkmcabpjmkgaa", sum := "9499d85ab476d1e2e2c12d304dc1d2f35dea35bf870653f5b9420828c6ff6760", func := "loop.example/g01132/laws.FnExactAddNumbers", spec := "fnExactAddNumbers", unfollowed := true, recurses := true, apart := false }
def FnExactAddNumbersSaid : Prop := fnExactAddNumbersRow.holds Try.pinned (OpenSpec.ofChange fnExactAddNumbersSpec)

/-- ITS FALSE NEIGHBOUR: 'it returns false'. Refute it at one input. -/
def fnExactAddNumbersWrong : ChangeSpec := { name := "fnExactAddNumbers", fn := fun _ => fun
  | [d1, d2] => { results := [.lit (.bool false)], args := [d1, d2] }
  | _ => none }
def FnExactAddNumbersWrongFalsely : Prop := fnExactAddNumbersRow.holds Try.pinned (OpenSpec.ofChange fnExactAddNumbersWrong)

/-- 'laws.FnExactSubtractNumbers': WHATEVER THE INPUT: true; the input reads as it did. -/
def fnExactSubtractNumbersSpec : ChangeSpec := { name := "fnExactSubtractNumbers", fn := fun _ => fun
  | [d1, d2] => { results := [.lit (.bool true)], args := [d1, d2] }
  | _ => none }
def fnExactSubtractNumbersRow : OpenClaim := { program := "ytjmkmcabpjmkgaa", sum := "9499d85ab476d1e2e2c12d304dc1d2f35dea35bf870653f5b9420828c6ff6760", func := "loop.example/g01132/laws.FnExactSubtractNumbers", spec := "fnExactSubtractNumbers", unfollowed := true, recurses := true, apart := false }
def FnExactSubtractNumbersSaid : Prop := fnExactSubtractNumbersRow.holds Try.pinned (OpenSpec.ofChange fnExactSubtractNumbersSpec)

/-- ITS FALSE NEIGHBOUR: 'it returns false'. Refute it at one input. -/
def fnExactSubtractNumbersWrong : ChangeSpec := { name := "fnExactSubtractNumbers", fn := fun _ => fun
  | [d1, d2] => { results := [.lit (.bool false)], args := [d1, d2] }
  | _ => none }
def FnExactSubtractNumbersWrongFalsely : Prop := fnExactSubtractNumbersRow.holds Try.pinned (OpenSpec.ofChange fnExactSubtractNumbersWrong)

/-- 'laws.FnExactMultiplyNumbers': WHATEVER THE INPUT: true; the input reads as it did. -/
def fnExactMultiplyNumbersSpec : ChangeSpec := { name := "fnExactMultiplyNumbers", fn := fun _ => fun
  | [d1, d2] => { results := [.lit (.bool true)], args := [d1, d2] }
  | _ => none }
def fnExactMultiplyNumbersRow : OpenClaim := { program := "ytjmkmcabpjmkgaa", sum := "9499d85ab476d1e2e2c12d304dc1d2f35dea35bf870653f5b9420828c6ff6760", func := "loop.example/g01132/laws.FnExactMultiplyNumbers", spec := "fnExactMultiplyNumbers", unfollowed := true, recurses := true, apart := false }
def FnExactMultiplyNumbersSaid : Prop := fnExactMultiplyNumbersRow.holds Try.pinned (OpenSpec.ofChange fnExactMultiplyNumbersSpec)

/-- ITS FALSE NEIGHBOUR: 'it returns false'. Refute it at one input. -/
def fnExactMultiplyNumbersWrong : ChangeSpec := { name := "fnExactMultiplyNumbers", fn := fun _ => fun
  | [d1, d2] => { results := [.lit (.bool false)], args := [d1, d2] }
  | _ => none }
def FnExactMultiplyNumbersWrongFalsely : Prop := fnExactMultiplyNumbersRow.holds Try.pinned (OpenSpec.ofChange fnExactMultiplyNumbersWrong)

/-- 'laws.FnExactDivideNumbers': WHATEVER THE INPUT: true; the input reads as it did. -/
def fnExactDivideNumbersSpec : ChangeSpec := { name := "fnExactDivideNumbers", fn := fun _ => fun
  | [d1, d2] => { results := [.lit (.bool true)], args := [d1, d2] }
  | _ => none }
def fnExactDivideNumbersRow : OpenClaim := { program := "ytjmkmcabpjmkgaa", sum := "9499d85ab476d1e2e2c12d304dc1d2f35dea35bf870653f5b9420828c6ff6760", func := "loop.example/g01132/laws.FnExactDivideNumbers", spec := "fnExactDivideNumbers", unfollowed := true, recurses := true, apart := false }
def FnExactDivideNumbersSaid : Prop := fnExactDivideNumbersRow.holds Try.pinned (OpenSpec.ofChange fnExactDivideNumbersSpec)

/-- ITS FALSE NEIGHBOUR: 'it returns false'. Refute it at one input. -/
def fnExactDivideNumbersWrong : ChangeSpec := { name := "fnExactDivideNumbers", fn := fun _ => fun
  | [d1, d2] => { results := [.lit (.bool false)], args := [d1, d2] }
  | _ => none }
def FnExactDivideNumbersWrongFalsely : Prop := fnExactDivideNumbersRow.holds Try.pinned (OpenSpec.ofChange fnExactDivideNumbersWrong)

/-- 'laws.FnExactPowerNumber': WHATEVER THE INPUT: true; the input reads as it did. -/
def fnExactPowerNumberSpec : ChangeSpec := { name := "fnExactPowerNumber", fn := fun _ => fun
  | [d1, d2] => { results := [.lit (.bool true)], args := [d1, d2] }
  | _ => none }
def fnExactPowerNumberRow : OpenClaim := { program := "ytjmkmcabpjmkgaa", sum := "9499d85ab476d1e2e2c12d304dc1d2f35dea35bf870653f5b9420828c6ff6760", func := "loop.example/g01132/laws.FnExactPowerNumber", spec := "fnExactPowerNumber", apart := false }
def FnExactPowerNumberSaid : Prop := fnExactPowerNumberRow.holds Try.pinned (OpenSpec.ofChange fnExactPowerNumberSpec)

/-- ITS FALSE NEIGHBOUR: 'it returns false'. Refute it at one input. -/
def fnExactPowerNumberWrong : ChangeSpec := { name := "fnExactPowerNumber", fn := fun _ => fun
  | [d1, d2] => { results := [.lit (.bool false)], args := [d1, d2] }
  | _ => none }
def FnExactPowerNumberWrongFalsely : Prop := fnExactPowerNumberRow.holds Try.pinned (OpenSpec.ofChange fnExactPowerNumberWrong)

/-- 'laws.FnExactPrimitiveNumber': WHATEVER THE INPUT: true; the input reads as it did. -/
def fnExactPrimitiveNumberSpec : ChangeSpec := { name := "fnExactPrimitiveNumber", fn := fun _ => fun
  | [] => { results := [.lit (.bool true)], args := [] }
  | _ => none }
def fnExactPrimitiveNumberRow : OpenClaim := { program := "ytjmkmcabpjmkgaa", sum := "9499d85ab476d1e2e2c12d304dc1d2f35dea35bf870653f5b9420828c6ff6760", func := "loop.example/g01132/laws.FnExactPrimitiveNumber", spec := "fnExactPrimitiveNumber", apart := false }
def FnExactPrimitiveNumberSaid : Prop := fnExactPrimitiveNumberRow.holds Try.pinned (OpenSpec.ofChange fnExactPrimitiveNumberSpec)

/-- ITS FALSE NEIGHBOUR: 'it returns false'. Refute it at one input. -/
def fnExactPrimitiveNumberWrong : ChangeSpec := { name := "fnExactPrimitiveNumber", fn := fun _ => fun
  | [] => { results := [.lit (.bool false)], args := [] }
  | _ => none }
def FnExactPrimitiveNumberWrongFalsely : Prop := fnExactPrimitiveNumberRow.holds Try.pinned (OpenSpec.ofChange fnExactPrimitiveNumberWrong)

/- THE SECOND FORM. 'bulk': how many values and letters a reading holds, each counted each time it is reached (what is shared counts as often as it is met; a slice's spare places count too). A statement '..UptoSaid' is the law's where the arguments, and the package variables that the reading takes, are together of bulk at most 1048576: NARROWER than '..Said'. Prove '..Said' where nothing that the law and all that it calls make is longer than what came in: it says more and counts as full. Else prove '..UptoSaid'. A law counts once. -/
mutual
def uptoBulk {H : Type} : DataW H → Nat
  | .lit (.string bytes) => bytes.length + 1
  | .lit _ => 1
  | .nil => 1
  | .ptr d => uptoBulk d + 1
  | .slice elems spare => uptoBulkAll elems + uptoBulkAll spare + 1
  | .agg parts => uptoBulkAll parts + 1
  | .iface _ d => uptoBulk d + 1
  | .map entries => uptoBulkEntries entries + 1
  | .held _ => 1
def uptoBulkAll {H : Type} : List (DataW H) → Nat
  | [] => 0
  | d :: r => uptoBulk d + uptoBulkAll r
def uptoBulkEntries {H : Type} : List (Lit × DataW H) → Nat
  | [] => 0
  | x :: r => uptoBulkEntry x + uptoBulkEntries r
def uptoBulkEntry {H : Type} : Lit × DataW H → Nat
  | (.string bytes, d) => bytes.length + uptoBulk d + 1
  | (_, d) => uptoBulk d + 1
 end
def uptoSmall : (H : Type) → List (DataW H) → Bool := fun _ ds => decide (uptoBulkAll ds ≤ 1048576)
def OpenSpec.upto (s : _root_.Go.ChangeSpec) : _root_.Go.OpenSpec := { _root_.Go.OpenSpec.ofChange s with cond := some uptoSmall }

/-- 'laws.FnNumbers', WHERE WHAT IT READS IS OF BULK AT MOST 1048576: true; the input reads as it did. -/
def fnNumbersUptoRow : OpenClaim := { program := "ytjmkmcabpjmkgaa", sum := "9499d85ab476d1e2e2c12d304dc1d2f35dea35bf870653f5b9420828c6ff6760", func := "loop.example/g01132/laws.FnNumbers", spec := "fnNumbers", unfollowed := true, recurses := true, apart := false, narrowed := true }
def FnNumbersUptoSaid : Prop := fnNumbersUptoRow.holds Try.pinned (OpenSpec.upto fnNumbersSpec)

/-- 'laws.FnExactIsNumber', WHERE WHAT IT READS IS OF BULK AT MOST 1048576: true; the input reads as it did. -/
def fnExactIsNumberUptoRow : OpenClaim := { program := "ytjmkmcabpjmkgaa", sum := "9499d85ab476d1e2e2c12d304dc1d2f35dea35bf870653f5b9420828c6ff6760", func := "loop.example/g01132/laws.FnExactIsNumber", spec := "fnExactIsNumber", apart := false, narrowed := true }
def FnExactIsNumberUptoSaid : Prop := fnExactIsNumberUptoRow.holds Try.pinned (OpenSpec.upto fnExactIsNumberSpec)

/-- 'laws.FnExactFractionNumber', WHERE WHAT IT READS IS OF BULK AT MOST 1048576: true; the input reads as it did. -/
def fnExactFractionNumberUptoRow : OpenClaim := { program := "ytjmkmcabpjmkgaa", sum := "9499d85ab476d1e2e2c12d304dc1d2f35dea35bf870653f5b9420828c6ff6760", func := "loop.example/g01132/laws.FnExactFractionNumber", spec := "fnExactFractionNumber", unfollowed := true, recurses := true, apart := false, narrowed := true }
def FnExactFractionNumberUptoSaid : Prop := fnExactFractionNumberUptoRow.holds Try.pinned (OpenSpec.upto fnExactFractionNumberSpec)

/-- 'laws.FnExactAddNumbers', WHERE WHAT IT READS IS OF BULK AT MOST 1048576: true; the input reads as it did. -/
def fnExactAddNumbersUptoRow : OpenClaim := { program := "ytjmkmcabpjmkgaa", sum := "9499d85ab476d1e2e2c12d304dc1d2f35dea35bf870653f5b9420828c6ff6760", func := "loop.example/g01132/laws.FnExactAddNumbers", spec := "fnExactAddNumbers", unfollowed := true, recurses := true, apart := false, narrowed := true }
def FnExactAddNumbersUptoSaid : Prop := fnExactAddNumbersUptoRow.holds Try.pinned (OpenSpec.upto fnExactAddNumbersSpec)

/-- 'laws.FnExactSubtractNumbers', WHERE WHAT IT READS IS OF BULK AT MOST 1048576: true; the input reads as it did. -/
def fnExactSubtractNumbersUptoRow : OpenClaim := { program := "ytjmkmcabpjmkgaa", sum := "9499d85ab476d1e2e2c12d304dc1d2f35dea35bf870653f5b9420828c6ff6760", func := "loop.example/g01132/laws.FnExactSubtractNumbers", spec := "fnExactSubtractNumbers", unfollowed := true, recurses := true, apart := false, narrowed := true }
def FnExactSubtractNumbersUptoSaid : Prop := fnExactSubtractNumbersUptoRow.holds Try.pinned (OpenSpec.upto fnExactSubtractNumbersSpec)

/-- 'laws.FnExactMultiplyNumbers', WHERE WHAT IT READS IS OF BULK AT MOST 1048576: true; the input reads as it did. -/
def fnExactMultiplyNumbersUptoRow : OpenClaim := { program := "ytjmkmcabpjmkgaa", sum := "9499d85ab476d1e2e2c12d304dc1d2f35dea35bf870653f5b9420828c6ff6760", func := "loop.example/g01132/laws.FnExactMultiplyNumbers", spec := "fnExactMultiplyNumbers", unfollowed := true, recurses := true, apart := false, narrowed := true }
def FnExactMultiplyNumbersUptoSaid : Prop := fnExactMultiplyNumbersUptoRow.holds Try.pinned (OpenSpec.upto fnExactMultiplyNumbersSpec)

/-- 'laws.FnExactDivideNumbers', WHERE WHAT IT READS IS OF BULK AT MOST 1048576: true; the input reads as it did. -/
def fnExactDivideNumbersUptoRow : OpenClaim := { program := "ytjmkmcabpjmkgaa", sum := "9499d85ab476d1e2e2c12d304dc1d2f35dea35bf870653f5b9420828c6ff6760", func := "loop.example/g01132/laws.FnExactDivideNumbers", spec := "fnExactDivideNumbers", unfollowed := true, recurses := true, apart := false, narrowed := true }
def FnExactDivideNumbersUptoSaid : Prop := fnExactDivideNumbersUptoRow.holds Try.pinned (OpenSpec.upto fnExactDivideNumbersSpec)

/-- 'laws.FnExactPowerNumber', WHERE WHAT IT READS IS OF BULK AT MOST 1048576: true; the input reads as it did. -/
def fnExactPowerNumberUptoRow : OpenClaim := { program := "ytjmkmcabpjmkgaa", sum := "9499d85ab476d1e2e2c12d304dc1d2f35dea35bf870653f5b9420828c6ff6760", func := "loop.example/g01132/laws.FnExactPowerNumber", spec := "fnExactPowerNumber", apart := false, narrowed := true }
def FnExactPowerNumberUptoSaid : Prop := fnExactPowerNumberUptoRow.holds Try.pinned (OpenSpec.upto fnExactPowerNumberSpec)

/-- 'laws.FnExactPrimitiveNumber', WHERE WHAT IT READS IS OF BULK AT MOST 1048576: true; the input reads as it did. -/
def fnExactPrimitiveNumberUptoRow : OpenClaim := { program := "ytjmkmcabpjmkgaa", sum := "9499d85ab476d1e2e2c12d304dc1d2f35dea35bf870653f5b9420828c6ff6760", func := "loop.example/g01132/laws.FnExactPrimitiveNumber", spec := "fnExactPrimitiveNumber", apart := false, narrowed := true }
def FnExactPrimitiveNumberUptoSaid : Prop := fnExactPrimitiveNumberUptoRow.holds Try.pinned (OpenSpec.upto fnExactPrimitiveNumberSpec)

end Rows
end Go.Proofs.Ytjmkmcabpjmkgaa
