/- TransposeMatrix of both. -/
import Derived.Test.YtaffiohdjkbkkaaIsS
import Derived.Test.YtaffiohdjkbkkaaZer
namespace Go.Proofs.Ytaffiohdjkbkkaa
open Go.RowKit
/-- the code where a matrix is asked -/
def cMat (b : Bool) : Int := if b then 0 else 1
/-- a number of rows, or 0 with an error -/
def nIf (b : Bool) (n : Nat) : Nat := if b then n else 0
theorem tabRes_err {w w' : World} {L : Nat → Nat} {f : Nat → Nat → Int} {n : Nat} {c c' : Int} (hn : n = 0) (hc : c' = c) (hb : Below w.heap.size w w') : TabRes w n L f c (.returned (.tuple #[.slice none 0 0, .int .i64 c'])) w' :=
  ⟨none, 0, by rw [hn, hc], Or.inl hn, hb⟩
theorem implTranspose_f_rows (n : Nat) (L : Nat → Nat) (f : Nat → Nat → Int) : nIf (matB n L f) (L 0) ≤ 64 := by
  unfold nIf
  split
  · rename_i h; have := matB_dims h; omega
  · omega
theorem implTranspose_f_cols (n : Nat) (L : Nat → Nat) (f : Nat → Nat → Int) : ∀ i, i < nIf (matB n L f) (L 0) → n ≤ 64 := by
  unfold nIf
  split
  · rename_i h; have := matB_dims h; omega
  · intro i hi; omega
end Go.Proofs.Ytaffiohdjkbkkaa
