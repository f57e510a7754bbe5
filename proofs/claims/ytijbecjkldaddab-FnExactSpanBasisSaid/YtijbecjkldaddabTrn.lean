/- Transposed matrices, in the specification. -/
import Derived.Test.YtijbecjkldaddabAcc
import Derived.Test.YtijbecjkldaddabIs
namespace Go.Proofs.Ytijbecjkldaddab
open Go.RowKit
end Go.Proofs.Ytijbecjkldaddab
