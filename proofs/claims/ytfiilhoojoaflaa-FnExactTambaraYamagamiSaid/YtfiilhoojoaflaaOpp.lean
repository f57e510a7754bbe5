/- OppositeRing of the program. -/
import Derived.Test.YtfiilhoojoaflaaCbo
import Derived.Test.YtfiilhoojoaflaaRgiP
import Derived.Test.YtfiilhoojoaflaaTail
namespace Go.Proofs.Ytfiilhoojoaflaa
open Go.RowKit
set_option linter.unusedSimpArgs false
theorem implOpp_f_rows (n : Nat) (M : Nat → Nat) (L : Nat → Nat → Nat) (f : Nat → Nat → Nat → Int) : nRg (ringB n M L f) n ≤ 64 := nRg_le
theorem implOpp_f_cols (n : Nat) (M : Nat → Nat) (L : Nat → Nat → Nat) (f : Nat → Nat → Nat → Int) : ∀ i, i < nRg (ringB n M L f) n → n ≤ 64 := fun i hi => by
  have := nRg_le (n := n) (M := M) (L := L) (f := f)
  unfold nRg at *
  split at hi
  · rename_i h; rw [if_pos h] at this; exact this
  · omega
theorem implOpp_f_deep (n : Nat) (M : Nat → Nat) (L : Nat → Nat → Nat) (f : Nat → Nat → Nat → Int) : ∀ i, i < nRg (ringB n M L f) n → ∀ j, j < n → n ≤ 64 := fun i hi _ _ => implOpp_f_cols n M L f i hi
end Go.Proofs.Ytfiilhoojoaflaa
