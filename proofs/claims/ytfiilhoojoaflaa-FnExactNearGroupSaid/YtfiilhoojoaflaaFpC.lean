/- Families of rings (the program's): the ring of a family. -/
import Derived.Test.YtfiilhoojoaflaaFpB
import Derived.Test.YtfiilhoojoaflaaRgC
namespace Go.Proofs.Ytfiilhoojoaflaa
open Go.RowKit
set_option linter.unusedSimpArgs false
set_option linter.unusedVariables false
end Go.Proofs.Ytfiilhoojoaflaa
