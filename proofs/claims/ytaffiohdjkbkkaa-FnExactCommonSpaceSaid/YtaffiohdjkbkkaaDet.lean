/- The determinant, in the specification; Determinant of both. -/
import Derived.Test.YtaffiohdjkbkkaaDetI
import Derived.Test.YtaffiohdjkbkkaaTail
namespace Go.Proofs.Ytaffiohdjkbkkaa
open Go.RowKit
set_option linter.unusedSimpArgs false
end Go.Proofs.Ytaffiohdjkbkkaa
