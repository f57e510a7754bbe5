/- Transposed matrices, in the specification. -/
import Derived.Test.YtaffiohdjkbkkaaAcc
import Derived.Test.YtaffiohdjkbkkaaIs
namespace Go.Proofs.Ytaffiohdjkbkkaa
open Go.RowKit
end Go.Proofs.Ytaffiohdjkbkkaa
