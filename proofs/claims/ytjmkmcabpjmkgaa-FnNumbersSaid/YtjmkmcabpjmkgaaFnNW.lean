/- What the walk of FnNumbers takes. -/
import Derived.Test.YtjmkmcabpjmkgaaFnN
import Derived.Test.YtjmkmcabpjmkgaaDrw
import Derived.Test.YtjmkmcabpjmkgaaNumA
namespace Go.Proofs.Ytjmkmcabpjmkgaa
open Go.RowKit
theorem specIsNum_any (a : Int) (w : World) : Calls Try.prog 17 #[.int .i64 a] w fun e w' => e = .returned (.bool (numB a)) ∧ w = w' := by
  go_enter Try.func17, Try.ntmps17
  go_wp2_with (go_at_call 37; refine (l01Number_any _ _).mono ?_; rintro e w' ⟨rfl, rfl⟩)
  go_ret
  exact ⟨rfl, rfl⟩
end Go.Proofs.Ytjmkmcabpjmkgaa
