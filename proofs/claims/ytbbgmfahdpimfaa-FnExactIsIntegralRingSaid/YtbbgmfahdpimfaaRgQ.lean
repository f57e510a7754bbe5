/- PowerOfLabel of the specification. -/
import Derived.Test.YtbbgmfahdpimfaaRgP
namespace Go.Proofs.Ytbbgmfahdpimfaa
open Go.RowKit
set_option linter.unusedSimpArgs false
end Go.Proofs.Ytbbgmfahdpimfaa
