/- Transposed matrices, in the specification. -/
import Derived.Test.YtaffdoihmalilaaAcc
import Derived.Test.YtaffdoihmalilaaIs
namespace Go.Proofs.Ytaffdoihmalilaa
open Go.RowKit
end Go.Proofs.Ytaffdoihmalilaa
