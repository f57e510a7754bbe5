/-
  DERIVED. GIVEN WITH THE SEED: THE CARDS: each row of YtpfodikmidgpmaaDoorRows.lean that lists a variable, with what it lists TIED to the program's text (the seventh form; the later family's looks); each row that meets fmt, with fmt's text TOLD by the authors' own Lean function (tested against real Go, not proved from fmt's source: count such statements apart). THE CARD IS WHAT COUNTS. Prove the row's statement (the work); the ties are given (YtpfodikmidgpmaaDoorTie.lean); close each card by the builder's one call (the guide's Derived/Test/ToyasCard.lean, 'card_holds'). Laid BY PROGRAM, IN A SANDBOX (cutbox-door.mjs). By AI agents, Wed Nov 11 2026. No macro, syntax, notation, axiom, sorry.
-/
import Derived.Test.YtpfodikmidgpmaaDoorRows
import GoSem.ClaimSeven
namespace Go.Proofs.YtpfodikmidgpmaaDoor
namespace Rows

/-- THE TIED CARD OF 'laws.FnExactGradingGroup'. -/
def fnExactGradingGroupCard : Claim7 := { stood := { row := fnExactGradingGroupRow, standIns := [], harness := (true, "95382bbf0ceb7c46bc0a4182c99725e0a87f80661a907349f48f81df1e156099"), looks := false }, kinds := [], alts := [], laidByText := true, laidKinds := [.data], laidTests := true, laidLooks := .later }
def FnExactGradingGroupCardSaid : Prop := Claim7.holds Tryd.pinned (.plain (OpenSpec.ofChange fnExactGradingGroupSpec)) fnExactGradingGroupCard

/-- THE SECOND FORM's CARD OF 'laws.FnExactGradingGroup'. -/
def fnExactGradingGroupUptoCard : Claim7 := { stood := { row := fnExactGradingGroupUptoRow, standIns := [], harness := (true, "95382bbf0ceb7c46bc0a4182c99725e0a87f80661a907349f48f81df1e156099"), looks := false }, kinds := [], alts := [], laidByText := true, laidKinds := [.data], laidTests := true, laidLooks := .later }
def FnExactGradingGroupUptoCardSaid : Prop := Claim7.holds Tryd.pinned (.plain (OpenSpec.upto fnExactGradingGroupSpec)) fnExactGradingGroupUptoCard
end Rows
end Go.Proofs.YtpfodikmidgpmaaDoor
