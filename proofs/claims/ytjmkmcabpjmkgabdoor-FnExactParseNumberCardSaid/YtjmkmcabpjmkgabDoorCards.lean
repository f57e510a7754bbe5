/-
  DERIVED. GIVEN WITH THE SEED: THE CARDS: each row of YtjmkmcabpjmkgabDoorRows.lean that lists a variable, with what it lists TIED to the program's text (the seventh form; the later family's looks); each row that meets fmt, with fmt's text TOLD by the authors' own Lean function (tested against real Go, not proved from fmt's source: count such statements apart). THE CARD IS WHAT COUNTS. Prove the row's statement (the work); the ties are given (YtjmkmcabpjmkgabDoorTie.lean); close each card by the builder's one call (the guide's Derived/Test/ToyasCard.lean, 'card_holds'). Laid BY PROGRAM, IN A SANDBOX (cutbox-door.mjs). By AI agents, Wed Nov 11 2026. No macro, syntax, notation, axiom, sorry.
-/
import Derived.Test.YtjmkmcabpjmkgabDoorRows
import GoSem.ClaimSeven
namespace Go.Proofs.YtjmkmcabpjmkgabDoor
namespace Rows

/-- THE TIED CARD OF 'laws.FnExactLogarithmOf'. -/
def fnExactLogarithmOfCard : Claim7 := { stood := { row := fnExactLogarithmOfRow, standIns := [], harness := (true, "2b558b3d3a06e20b2742a26aad318c046fbd5f819090252220cc6529f0a3afdd"), looks := true }, kinds := [], alts := [], laidByText := true, laidKinds := [.data], laidTests := true, laidLooks := .later }
def FnExactLogarithmOfCardSaid : Prop := Claim7.holds Tryd.pinned (.plain (OpenSpec.ofChange fnExactLogarithmOfSpec)) fnExactLogarithmOfCard

/-- THE TIED CARD OF 'laws.FnExactSquareRoot'. -/
def fnExactSquareRootCard : Claim7 := { stood := { row := fnExactSquareRootRow, standIns := [], harness := (true, "2b558b3d3a06e20b2742a26aad318c046fbd5f819090252220cc6529f0a3afdd"), looks := true }, kinds := [], alts := [], laidByText := true, laidKinds := [.data], laidTests := true, laidLooks := .later }
def FnExactSquareRootCardSaid : Prop := Claim7.holds Tryd.pinned (.plain (OpenSpec.ofChange fnExactSquareRootSpec)) fnExactSquareRootCard

/-- THE TIED CARD OF 'laws.FnExactNumberText'. -/
def fnExactNumberTextCard : Claim7 := { stood := { row := fnExactNumberTextRow, standIns := [], harness := (true, "2b558b3d3a06e20b2742a26aad318c046fbd5f819090252220cc6529f0a3afdd"), looks := true }, kinds := [], alts := [], laidByText := true, laidKinds := [.data, .data, .data], laidTests := true, laidLooks := .later }
def FnExactNumberTextCardSaid : Prop := Claim7.holds Tryd.pinned (.plain (OpenSpec.ofChange fnExactNumberTextSpec)) fnExactNumberTextCard

/-- THE TIED CARD OF 'laws.FnExactParseNumber'. -/
def fnExactParseNumberCard : Claim7 := { stood := { row := fnExactParseNumberRow, standIns := [], harness := (true, "2b558b3d3a06e20b2742a26aad318c046fbd5f819090252220cc6529f0a3afdd"), looks := true }, kinds := [], alts := [], laidByText := true, laidKinds := [.data, .data, .data, .sentinel, .sentinel], laidTests := true, laidLooks := .later }
def FnExactParseNumberCardSaid : Prop := Claim7.holds Tryd.pinned (.plain (OpenSpec.ofChange fnExactParseNumberSpec)) fnExactParseNumberCard

/-- THE SECOND FORM's CARD OF 'laws.FnExactLogarithmOf'. -/
def fnExactLogarithmOfUptoCard : Claim7 := { stood := { row := fnExactLogarithmOfUptoRow, standIns := [], harness := (true, "2b558b3d3a06e20b2742a26aad318c046fbd5f819090252220cc6529f0a3afdd"), looks := true }, kinds := [], alts := [], laidByText := true, laidKinds := [.data], laidTests := true, laidLooks := .later }
def FnExactLogarithmOfUptoCardSaid : Prop := Claim7.holds Tryd.pinned (.plain (OpenSpec.upto fnExactLogarithmOfSpec)) fnExactLogarithmOfUptoCard

/-- THE SECOND FORM's CARD OF 'laws.FnExactSquareRoot'. -/
def fnExactSquareRootUptoCard : Claim7 := { stood := { row := fnExactSquareRootUptoRow, standIns := [], harness := (true, "2b558b3d3a06e20b2742a26aad318c046fbd5f819090252220cc6529f0a3afdd"), looks := true }, kinds := [], alts := [], laidByText := true, laidKinds := [.data], laidTests := true, laidLooks := .later }
def FnExactSquareRootUptoCardSaid : Prop := Claim7.holds Tryd.pinned (.plain (OpenSpec.upto fnExactSquareRootSpec)) fnExactSquareRootUptoCard

/-- THE SECOND FORM's CARD OF 'laws.FnExactNumberText'. -/
def fnExactNumberTextUptoCard : Claim7 := { stood := { row := fnExactNumberTextUptoRow, standIns := [], harness := (true, "2b558b3d3a06e20b2742a26aad318c046fbd5f819090252220cc6529f0a3afdd"), looks := true }, kinds := [], alts := [], laidByText := true, laidKinds := [.data, .data, .data], laidTests := true, laidLooks := .later }
def FnExactNumberTextUptoCardSaid : Prop := Claim7.holds Tryd.pinned (.plain (OpenSpec.upto fnExactNumberTextSpec)) fnExactNumberTextUptoCard

/-- THE SECOND FORM's CARD OF 'laws.FnExactParseNumber'. -/
def fnExactParseNumberUptoCard : Claim7 := { stood := { row := fnExactParseNumberUptoRow, standIns := [], harness := (true, "2b558b3d3a06e20b2742a26aad318c046fbd5f819090252220cc6529f0a3afdd"), looks := true }, kinds := [], alts := [], laidByText := true, laidKinds := [.data, .data, .data, .sentinel, .sentinel], laidTests := true, laidLooks := .later }
def FnExactParseNumberUptoCardSaid : Prop := Claim7.holds Tryd.pinned (.plain (OpenSpec.upto fnExactParseNumberSpec)) fnExactParseNumberUptoCard
end Rows
end Go.Proofs.YtjmkmcabpjmkgabDoor
