/- Families of rings (the specification's): the functions of chapter 6, but products and dihedral rings. -/
import Derived.Test.YtmdmojklagmmiaaFpM
import Derived.Test.YtmdmojklagmmiaaNum
import Derived.Handy
namespace Go.Proofs.Ytmdmojklagmmiaa
open Go.RowKit
set_option linter.unusedSimpArgs false
set_option linter.unusedVariables false
end Go.Proofs.Ytmdmojklagmmiaa
