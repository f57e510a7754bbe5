/- PowerOfLabel of the specification. -/
import Derived.Test.YtpfodikmidgpmaaRgP
namespace Go.Proofs.Ytpfodikmidgpmaa
open Go.RowKit
set_option linter.unusedSimpArgs false
end Go.Proofs.Ytpfodikmidgpmaa
