/- Families of rings (the program's): the ring of a family. -/
import Derived.Test.YtmdmojklagmmiaaFpB
import Derived.Test.YtmdmojklagmmiaaRgC
namespace Go.Proofs.Ytmdmojklagmmiaa
open Go.RowKit
set_option linter.unusedSimpArgs false
set_option linter.unusedVariables false
end Go.Proofs.Ytmdmojklagmmiaa
