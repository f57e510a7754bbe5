/- Weights of a step of the specification; WeightsOf of both. -/
import Derived.Test.YtpfodikmidgpmaaDmB
namespace Go.Proofs.Ytpfodikmidgpmaa
open Go.RowKit
set_option linter.unusedSimpArgs false
theorem implWts_f_rows (n : Nat) (M : Nat → Nat) (L : Nat → Nat → Nat) (f : Nat → Nat → Nat → Int) (t : Int) : nRg (ringB n M L f && inB 0 20 t && okT n f t.toNat) n ≤ 64 := by
  cases hr : ringB n M L f
  · simp [nRg]
  · have := (cub_num (ringB_t hr).1).2.1
    unfold nRg; split <;> omega
end Go.Proofs.Ytpfodikmidgpmaa
