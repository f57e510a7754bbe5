/- What the walk of FnOrders takes. -/
import Derived.Test.YtjmkmcabpjmkgaaDoorFnO
import Derived.Test.YtjmkmcabpjmkgaaDoorNumC
namespace Go.Proofs.YtjmkmcabpjmkgaaDoor
open Go.RowKit
theorem primeAt_prime (i : Nat) : primeAt i = 2 ∨ primeAt i = 3 ∨ primeAt i = 5 ∨ primeAt i = 7 ∨ primeAt i = 11 := by
  unfold primeAt
  (repeat' split) <;> simp
end Go.Proofs.YtjmkmcabpjmkgaaDoor
