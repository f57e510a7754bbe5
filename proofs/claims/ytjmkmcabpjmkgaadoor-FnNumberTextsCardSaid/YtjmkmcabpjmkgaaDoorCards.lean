/-
  DERIVED. GIVEN WITH THE SEED: THE CARDS: each row of YtjmkmcabpjmkgaaDoorRows.lean that lists a variable, with what it lists TIED to the program's text (the seventh form; the later family's looks); each row that meets fmt, with fmt's text TOLD by the authors' own Lean function (tested against real Go, not proved from fmt's source: count such statements apart). THE CARD IS WHAT COUNTS. Prove the row's statement (the work); the ties are given (YtjmkmcabpjmkgaaDoorTie.lean); close each card by the builder's one call (the guide's Derived/Test/ToyasCard.lean, 'card_holds'). Laid BY PROGRAM, IN A SANDBOX (cutbox-door.mjs). By AI agents, Wed Nov 11 2026. No macro, syntax, notation, axiom, sorry.
-/
import Derived.Test.YtjmkmcabpjmkgaaDoorRows
import GoSem.ClaimSeven
namespace Go.Proofs.YtjmkmcabpjmkgaaDoor
namespace Rows

/-- THE TIED CARD OF 'laws.FnOrders'. -/
def fnOrdersCard : Claim7 := { stood := { row := fnOrdersRow, standIns := [], harness := (true, "ea3a4170072999abbdf25a5bed70af37cd8ea0430450b55d4c640117d405ac81"), looks := true }, kinds := [], alts := [], laidByText := true, laidKinds := [.data], laidTests := true, laidLooks := .later }
def FnOrdersCardSaid : Prop := Claim7.holds Tryd.pinned (.plain (OpenSpec.ofChange fnOrdersSpec)) fnOrdersCard

/-- THE TIED CARD OF 'laws.FnNumberTexts'. -/
def fnNumberTextsCard : Claim7 := { stood := { row := fnNumberTextsRow, standIns := [], harness := (true, "ea3a4170072999abbdf25a5bed70af37cd8ea0430450b55d4c640117d405ac81"), looks := true }, kinds := [], alts := [], laidByText := true, laidKinds := [.data, .data, .data, .sentinel, .sentinel], laidTests := true, laidLooks := .later }
def FnNumberTextsCardSaid : Prop := Claim7.holds Tryd.pinned (.plain (OpenSpec.ofChange fnNumberTextsSpec)) fnNumberTextsCard

/-- THE TIED CARD OF 'laws.FnExactOrderOfNumber'. -/
def fnExactOrderOfNumberCard : Claim7 := { stood := { row := fnExactOrderOfNumberRow, standIns := [], harness := (true, "ea3a4170072999abbdf25a5bed70af37cd8ea0430450b55d4c640117d405ac81"), looks := true }, kinds := [], alts := [], laidByText := true, laidKinds := [.data], laidTests := true, laidLooks := .later }
def FnExactOrderOfNumberCardSaid : Prop := Claim7.holds Tryd.pinned (.plain (OpenSpec.ofChange fnExactOrderOfNumberSpec)) fnExactOrderOfNumberCard

/-- THE SECOND FORM's CARD OF 'laws.FnOrders'. -/
def fnOrdersUptoCard : Claim7 := { stood := { row := fnOrdersUptoRow, standIns := [], harness := (true, "ea3a4170072999abbdf25a5bed70af37cd8ea0430450b55d4c640117d405ac81"), looks := true }, kinds := [], alts := [], laidByText := true, laidKinds := [.data], laidTests := true, laidLooks := .later }
def FnOrdersUptoCardSaid : Prop := Claim7.holds Tryd.pinned (.plain (OpenSpec.upto fnOrdersSpec)) fnOrdersUptoCard

/-- THE SECOND FORM's CARD OF 'laws.FnNumberTexts'. -/
def fnNumberTextsUptoCard : Claim7 := { stood := { row := fnNumberTextsUptoRow, standIns := [], harness := (true, "ea3a4170072999abbdf25a5bed70af37cd8ea0430450b55d4c640117d405ac81"), looks := true }, kinds := [], alts := [], laidByText := true, laidKinds := [.data, .data, .data, .sentinel, .sentinel], laidTests := true, laidLooks := .later }
def FnNumberTextsUptoCardSaid : Prop := Claim7.holds Tryd.pinned (.plain (OpenSpec.upto fnNumberTextsSpec)) fnNumberTextsUptoCard

/-- THE SECOND FORM's CARD OF 'laws.FnExactOrderOfNumber'. -/
def fnExactOrderOfNumberUptoCard : Claim7 := { stood := { row := fnExactOrderOfNumberUptoRow, standIns := [], harness := (true, "ea3a4170072999abbdf25a5bed70af37cd8ea0430450b55d4c640117d405ac81"), looks := true }, kinds := [], alts := [], laidByText := true, laidKinds := [.data], laidTests := true, laidLooks := .later }
def FnExactOrderOfNumberUptoCardSaid : Prop := Claim7.holds Tryd.pinned (.plain (OpenSpec.upto fnExactOrderOfNumberSpec)) fnExactOrderOfNumberUptoCard
end Rows
end Go.Proofs.YtjmkmcabpjmkgaaDoor
