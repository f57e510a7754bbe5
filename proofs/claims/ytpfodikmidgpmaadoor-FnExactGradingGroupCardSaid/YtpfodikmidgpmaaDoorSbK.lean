/- AdjointOf of both. -/
import Derived.Test.YtpfodikmidgpmaaDoorSbGJ
import Derived.Test.YtpfodikmidgpmaaDoorRgiP
namespace Go.Proofs.YtpfodikmidgpmaaDoor
open Go.RowKit
set_option linter.unusedSimpArgs false
set_option linter.unusedVariables false
def iRg (b : Bool) (x : Int) : Int := if b then x else 0
/-- the adjoint subring -/
noncomputable def adV (n : Nat) (f : Nat → Nat → Nat → Int) : Nat := genS n f (adB n f (allS n))
end Go.Proofs.YtpfodikmidgpmaaDoor
