/- Determinant of the program. -/
import Derived.Test.YtaffiohdjkbkkaaSpn
namespace Go.Proofs.Ytaffiohdjkbkkaa
open Go.RowKit
set_option linter.unusedSimpArgs false
end Go.Proofs.Ytaffiohdjkbkkaa
