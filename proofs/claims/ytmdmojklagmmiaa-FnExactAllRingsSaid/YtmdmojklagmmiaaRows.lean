/-
  No cell of these rows narrows 'for every input' (looked for: loops, veiled, ifaces, maps, wideKeys, modest, calm, conditions, laid).
  DERIVED. THE GIVEN ROWS OF THIS SEAT. 5 by the template 'for every input the law returns true; each argument reads behind the call as it read before'; 0 by the template 'total and deterministic' (their statements: YtmdmojklagmmiaaTotals.lean).
  GIVEN WITH THE SEED: the statements are not yours to turn. If you find one false, say at which input.
  Laid BY PROGRAM, IN A SANDBOX (cutbox-rows.mjs): the forced cells as the released guide's own fill.sh prints them over the translation c9147047ec9642cc… (all of the seat's roots in one cut). By AI agents, Wed Nov 11 2026. No macro, syntax, notation, axiom, sorry.
-/
import Derived.Test.YtmdmojklagmmiaaChecked
import GoSem.Claim
import GoSem.ClaimJoined
import GoSem.ClaimMapViews
import Derived.JoinedTies
import Derived.KernelRfl
namespace Go.Proofs.Ytmdmojklagmmiaa
/- THE CELL 'sum', in the pinned program and in every row, IS THE sha256 OF THE DUMP (.gsa) THAT YtmdmojklagmmiaaProg.lean LOADS. Nothing in Lean hashes anything: it is a label: what it is worth is what the hold of that sum in a sandbox is worth. -/
noncomputable def Try.pinned : Pinned := { name := "ytmdmojklagmmiaa", sum := "c9147047ec9642cc1dab891a3b9db6fc7802045db860ee7d58073dc5633b79fd", checked := Try.checked }
namespace Rows
def none {H : Type} : Left H := { results := [], args := [] }

/-- 'laws.FnExactRingIsomorphism': WHATEVER THE INPUT: true; the input reads as it did. -/
def fnExactRingIsomorphismSpec : ChangeSpec := { name := "fnExactRingIsomorphism", fn := fun _ => fun
  | [d1, d2] => { results := [.lit (.bool true)], args := [d1, d2] }
  | _ => none }
def fnExactRingIsomorphismRow : OpenClaim := { program := "ytmdmojklagmmiaa", sum := "c9147047ec9642cc1dab891a3b9db6fc7802045db860ee7d58073dc5633b79fd", func := "loop.example/g01132/laws.FnExactRingIsomorphism", spec := "fnExactRingIsomorphism", unfollowed := true, recurses := true, apart := false }
def FnExactRingIsomorphismSaid : Prop := fnExactRingIsomorphismRow.holds Try.pinned (OpenSpec.ofChange fnExactRingIsomorphismSpec)

/-- ITS FALSE NEIGHBOUR: 'it returns false'. Refute it at one input. -/
def fnExactRingIsomorphismWrong : ChangeSpec := { name := "fnExactRingIsomorphism", fn := fun _ => fun
  | [d1, d2] => { results := [.lit (.bool false)], args := [d1, d2] }
  | _ => none }
def FnExactRingIsomorphismWrongFalsely : Prop := fnExactRingIsomorphismRow.holds Try.pinned (OpenSpec.ofChange fnExactRingIsomorphismWrong)

/-- 'laws.FnExactCountRingAutomorphisms': WHATEVER THE INPUT: true; the input reads as it did. -/
def fnExactCountRingAutomorphismsSpec : ChangeSpec := { name := "fnExactCountRingAutomorphisms", fn := fun _ => fun
  | [d] => { results := [.lit (.bool true)], args := [d] }
  | _ => none }
def fnExactCountRingAutomorphismsRow : OpenClaim := { program := "ytmdmojklagmmiaa", sum := "c9147047ec9642cc1dab891a3b9db6fc7802045db860ee7d58073dc5633b79fd", func := "loop.example/g01132/laws.FnExactCountRingAutomorphisms", spec := "fnExactCountRingAutomorphisms", unfollowed := true, recurses := true, apart := false }
def FnExactCountRingAutomorphismsSaid : Prop := fnExactCountRingAutomorphismsRow.holds Try.pinned (OpenSpec.ofChange fnExactCountRingAutomorphismsSpec)

/-- ITS FALSE NEIGHBOUR: 'it returns false'. Refute it at one input. -/
def fnExactCountRingAutomorphismsWrong : ChangeSpec := { name := "fnExactCountRingAutomorphisms", fn := fun _ => fun
  | [d] => { results := [.lit (.bool false)], args := [d] }
  | _ => none }
def FnExactCountRingAutomorphismsWrongFalsely : Prop := fnExactCountRingAutomorphismsRow.holds Try.pinned (OpenSpec.ofChange fnExactCountRingAutomorphismsWrong)

/-- 'laws.FnExactDihedralRing': WHATEVER THE INPUT: true; the input reads as it did. -/
def fnExactDihedralRingSpec : ChangeSpec := { name := "fnExactDihedralRing", fn := fun _ => fun
  | [d] => { results := [.lit (.bool true)], args := [d] }
  | _ => none }
def fnExactDihedralRingRow : OpenClaim := { program := "ytmdmojklagmmiaa", sum := "c9147047ec9642cc1dab891a3b9db6fc7802045db860ee7d58073dc5633b79fd", func := "loop.example/g01132/laws.FnExactDihedralRing", spec := "fnExactDihedralRing", unfollowed := true, recurses := true, apart := false }
def FnExactDihedralRingSaid : Prop := fnExactDihedralRingRow.holds Try.pinned (OpenSpec.ofChange fnExactDihedralRingSpec)

/-- ITS FALSE NEIGHBOUR: 'it returns false'. Refute it at one input. -/
def fnExactDihedralRingWrong : ChangeSpec := { name := "fnExactDihedralRing", fn := fun _ => fun
  | [d] => { results := [.lit (.bool false)], args := [d] }
  | _ => none }
def FnExactDihedralRingWrongFalsely : Prop := fnExactDihedralRingRow.holds Try.pinned (OpenSpec.ofChange fnExactDihedralRingWrong)

/-- 'laws.FnExactAllRings': WHATEVER THE INPUT: true; the input reads as it did. -/
def fnExactAllRingsSpec : ChangeSpec := { name := "fnExactAllRings", fn := fun _ => fun
  | [d1, d2] => { results := [.lit (.bool true)], args := [d1, d2] }
  | _ => none }
def fnExactAllRingsRow : OpenClaim := { program := "ytmdmojklagmmiaa", sum := "c9147047ec9642cc1dab891a3b9db6fc7802045db860ee7d58073dc5633b79fd", func := "loop.example/g01132/laws.FnExactAllRings", spec := "fnExactAllRings", unfollowed := true, recurses := true, apart := false }
def FnExactAllRingsSaid : Prop := fnExactAllRingsRow.holds Try.pinned (OpenSpec.ofChange fnExactAllRingsSpec)

/-- ITS FALSE NEIGHBOUR: 'it returns false'. Refute it at one input. -/
def fnExactAllRingsWrong : ChangeSpec := { name := "fnExactAllRings", fn := fun _ => fun
  | [d1, d2] => { results := [.lit (.bool false)], args := [d1, d2] }
  | _ => none }
def FnExactAllRingsWrongFalsely : Prop := fnExactAllRingsRow.holds Try.pinned (OpenSpec.ofChange fnExactAllRingsWrong)

/-- 'laws.FnExactCountRingTables': WHATEVER THE INPUT: true; the input reads as it did. -/
def fnExactCountRingTablesSpec : ChangeSpec := { name := "fnExactCountRingTables", fn := fun _ => fun
  | [d1, d2] => { results := [.lit (.bool true)], args := [d1, d2] }
  | _ => none }
def fnExactCountRingTablesRow : OpenClaim := { program := "ytmdmojklagmmiaa", sum := "c9147047ec9642cc1dab891a3b9db6fc7802045db860ee7d58073dc5633b79fd", func := "loop.example/g01132/laws.FnExactCountRingTables", spec := "fnExactCountRingTables", unfollowed := true, recurses := true, apart := false }
def FnExactCountRingTablesSaid : Prop := fnExactCountRingTablesRow.holds Try.pinned (OpenSpec.ofChange fnExactCountRingTablesSpec)

/-- ITS FALSE NEIGHBOUR: 'it returns false'. Refute it at one input. -/
def fnExactCountRingTablesWrong : ChangeSpec := { name := "fnExactCountRingTables", fn := fun _ => fun
  | [d1, d2] => { results := [.lit (.bool false)], args := [d1, d2] }
  | _ => none }
def FnExactCountRingTablesWrongFalsely : Prop := fnExactCountRingTablesRow.holds Try.pinned (OpenSpec.ofChange fnExactCountRingTablesWrong)

/- THE SECOND FORM. 'bulk': how many values and letters a reading holds, each counted each time it is reached (what is shared counts as often as it is met; a slice's spare places count too). A statement '..UptoSaid' is the law's where the arguments, and the package variables that the reading takes, are together of bulk at most 1048576: NARROWER than '..Said'. Prove '..Said' where nothing that the law and all that it calls make is longer than what came in: it says more and counts as full. Else prove '..UptoSaid'. A law counts once. -/
mutual
def uptoBulk {H : Type} : DataW H → Nat
  | .lit (.string bytes) => bytes.length + 1
  | .lit _ => 1
  | .nil => 1
  | .ptr d => uptoBulk d + 1
  | .slice elems spare => uptoBulkAll elems + uptoBulkAll spare + 1
  | .agg parts => uptoBulkAll parts + 1
  | .iface _ d => uptoBulk d + 1
  | .map entries => uptoBulkEntries entries + 1
  | .held _ => 1
def uptoBulkAll {H : Type} : List (DataW H) → Nat
  | [] => 0
  | d :: r => uptoBulk d + uptoBulkAll r
def uptoBulkEntries {H : Type} : List (Lit × DataW H) → Nat
  | [] => 0
  | x :: r => uptoBulkEntry x + uptoBulkEntries r
def uptoBulkEntry {H : Type} : Lit × DataW H → Nat
  | (.string bytes, d) => bytes.length + uptoBulk d + 1
  | (_, d) => uptoBulk d + 1
 end
def uptoSmall : (H : Type) → List (DataW H) → Bool := fun _ ds => decide (uptoBulkAll ds ≤ 1048576)
def OpenSpec.upto (s : _root_.Go.ChangeSpec) : _root_.Go.OpenSpec := { _root_.Go.OpenSpec.ofChange s with cond := some uptoSmall }

/-- 'laws.FnExactRingIsomorphism', WHERE WHAT IT READS IS OF BULK AT MOST 1048576: true; the input reads as it did. -/
def fnExactRingIsomorphismUptoRow : OpenClaim := { program := "ytmdmojklagmmiaa", sum := "c9147047ec9642cc1dab891a3b9db6fc7802045db860ee7d58073dc5633b79fd", func := "loop.example/g01132/laws.FnExactRingIsomorphism", spec := "fnExactRingIsomorphism", unfollowed := true, recurses := true, apart := false, narrowed := true }
def FnExactRingIsomorphismUptoSaid : Prop := fnExactRingIsomorphismUptoRow.holds Try.pinned (OpenSpec.upto fnExactRingIsomorphismSpec)

/-- 'laws.FnExactCountRingAutomorphisms', WHERE WHAT IT READS IS OF BULK AT MOST 1048576: true; the input reads as it did. -/
def fnExactCountRingAutomorphismsUptoRow : OpenClaim := { program := "ytmdmojklagmmiaa", sum := "c9147047ec9642cc1dab891a3b9db6fc7802045db860ee7d58073dc5633b79fd", func := "loop.example/g01132/laws.FnExactCountRingAutomorphisms", spec := "fnExactCountRingAutomorphisms", unfollowed := true, recurses := true, apart := false, narrowed := true }
def FnExactCountRingAutomorphismsUptoSaid : Prop := fnExactCountRingAutomorphismsUptoRow.holds Try.pinned (OpenSpec.upto fnExactCountRingAutomorphismsSpec)

/-- 'laws.FnExactDihedralRing', WHERE WHAT IT READS IS OF BULK AT MOST 1048576: true; the input reads as it did. -/
def fnExactDihedralRingUptoRow : OpenClaim := { program := "ytmdmojklagmmiaa", sum := "c9147047ec9642cc1dab891a3b9db6fc7802045db860ee7d58073dc5633b79fd", func := "loop.example/g01132/laws.FnExactDihedralRing", spec := "fnExactDihedralRing", unfollowed := true, recurses := true, apart := false, narrowed := true }
def FnExactDihedralRingUptoSaid : Prop := fnExactDihedralRingUptoRow.holds Try.pinned (OpenSpec.upto fnExactDihedralRingSpec)

/-- 'laws.FnExactAllRings', WHERE WHAT IT READS IS OF BULK AT MOST 1048576: true; the input reads as it did. -/
def fnExactAllRingsUptoRow : OpenClaim := { program := "ytmdmojklagmmiaa", sum := "c9147047ec9642cc1dab891a3b9db6fc7802045db860ee7d58073dc5633b79fd", func := "loop.example/g01132/laws.FnExactAllRings", spec := "fnExactAllRings", unfollowed := true, recurses := true, apart := false, narrowed := true }
def FnExactAllRingsUptoSaid : Prop := fnExactAllRingsUptoRow.holds Try.pinned (OpenSpec.upto fnExactAllRingsSpec)

/-- 'laws.FnExactCountRingTables', WHERE WHAT IT READS IS OF BULK AT MOST 1048576: true; the input reads as it did. -/
def fnExactCountRingTablesUptoRow : OpenClaim := { program := "ytmdmojklagmmiaa", sum := "c9147047ec9642cc1dab891a3b9db6fc7802045db860ee7d58073dc5633b79fd", func := "loop.example/g01132/laws.FnExactCountRingTables", spec := "fnExactCountRingTables", unfollowed := true, recurses := true, apart := false, narrowed := true }
def FnExactCountRingTablesUptoSaid : Prop := fnExactCountRingTablesUptoRow.holds Try.pinned (OpenSpec.upto fnExactCountRingTablesSpec)

end Rows
end Go.Proofs.Ytmdmojklagmmiaa
