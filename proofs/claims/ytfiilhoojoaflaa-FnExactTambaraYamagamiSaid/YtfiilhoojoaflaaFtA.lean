/- Families of rings that are made from one number: the frame of their functions. -/
import Derived.Test.YtfiilhoojoaflaaFsA
import Derived.Test.YtfiilhoojoaflaaFpC
namespace Go.Proofs.Ytfiilhoojoaflaa
open Go.RowKit
set_option linter.unusedSimpArgs false
set_option linter.unusedVariables false
end Go.Proofs.Ytfiilhoojoaflaa
