/- Contracts of sums, differences, products of chapter 1. -/
import Derived.Test.YtaffiohdjkbkkaaDoorNum
namespace Go.Proofs.YtaffiohdjkbkkaaDoor
open Go.RowKit

theorem tmod_cases (k m : Int) : (0 ≤ k ∧ k.tmod m = k % m) ∨ (k < 0 ∧ k.tmod m = -(-k % m)) := by
  by_cases h : 0 ≤ k
  · exact Or.inl ⟨h, Int.tmod_eq_emod_of_nonneg h⟩
  · refine Or.inr ⟨by omega, ?_⟩
    rw [← Int.tmod_eq_emod_of_nonneg (by omega : 0 ≤ -k), Int.neg_tmod, Int.neg_neg]
theorem mod_go (k : Int) : (k.tmod 55441 + 55441) % 55441 = k % 55441 := by
  rcases tmod_cases k 55441 with ⟨h, e⟩ | ⟨h, e⟩ <;> rw [e] <;> omega
theorem tmod_bd (k : Int) : -55441 < k.tmod 55441 ∧ k.tmod 55441 < 55441 := by
  rcases tmod_cases k 55441 with ⟨h, e⟩ | ⟨h, e⟩ <;> rw [e] <;> omega
end Go.Proofs.YtaffiohdjkbkkaaDoor
