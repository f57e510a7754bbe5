/- Families of rings that are made from one number: the frame of their functions. -/
import Derived.Test.YtmdmojklagmmiaaFsA
import Derived.Test.YtmdmojklagmmiaaFpC
namespace Go.Proofs.Ytmdmojklagmmiaa
open Go.RowKit
set_option linter.unusedSimpArgs false
set_option linter.unusedVariables false
end Go.Proofs.Ytmdmojklagmmiaa
