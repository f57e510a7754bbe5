/- OppositeRing of the program. -/
import Derived.Test.YtmdmojklagmmiaaCbo
import Derived.Test.YtmdmojklagmmiaaRgiP
import Derived.Test.YtmdmojklagmmiaaTail
namespace Go.Proofs.Ytmdmojklagmmiaa
open Go.RowKit
set_option linter.unusedSimpArgs false
theorem implOpp_f_rows (n : Nat) (M : Nat → Nat) (L : Nat → Nat → Nat) (f : Nat → Nat → Nat → Int) : nRg (ringB n M L f) n ≤ 64 := nRg_le
theorem implOpp_f_cols (n : Nat) (M : Nat → Nat) (L : Nat → Nat → Nat) (f : Nat → Nat → Nat → Int) : ∀ i, i < nRg (ringB n M L f) n → n ≤ 64 := fun i hi => by
  have := nRg_le (n := n) (M := M) (L := L) (f := f)
  unfold nRg at *
  split at hi
  · rename_i h; rw [if_pos h] at this; exact this
  · omega
theorem implOpp_f_deep (n : Nat) (M : Nat → Nat) (L : Nat → Nat → Nat) (f : Nat → Nat → Nat → Int) : ∀ i, i < nRg (ringB n M L f) n → ∀ j, j < n → n ≤ 64 := fun i hi _ _ => implOpp_f_cols n M L f i hi
end Go.Proofs.Ytmdmojklagmmiaa
