/- IsSubring of both. -/
import Derived.Test.YtpfodikmidgpmaaDoorSbO
namespace Go.Proofs.YtpfodikmidgpmaaDoor
open Go.RowKit
set_option linter.unusedSimpArgs false
set_option linter.unusedVariables false
/-- a number is a set of labels -/
def setB (n : Nat) (k : Int) : Bool := decide (0 ≤ k ∧ k < ((2 ^ n : Nat) : Int))
/-- a set is a subring -/
noncomputable def sbrB (n : Nat) (f : Nat → Nat → Nat → Int) (s : Nat) : Bool := @decide (Sbr n f s) (Classical.propDecidable _)
theorem sbrB_of {n : Nat} {f : Nat → Nat → Nat → Int} {s : Nat} {r : Bool} (h : r = true ↔ Sbr n f s) : r = sbrB n f s := by
  unfold sbrB
  rw [Bool.eq_iff_iff, @decide_eq_true_iff _ (Classical.propDecidable _)]
  exact h
theorem shr_zero (s n : Nat) : ((s : Int) / 2 ^ n == 0) = decide (s < 2 ^ n) := by
  rw [div_pow_nat]
  have hp : 0 < 2 ^ n := Nat.pow_pos (by omega)
  by_cases h : s < 2 ^ n
  · rw [Nat.div_eq_of_lt h, decide_eq_true h]; rfl
  · rw [decide_eq_false h]
    have : 1 ≤ s / 2 ^ n := (Nat.le_div_iff_mul_le hp).2 (by omega)
    obtain ⟨q, hq⟩ : ∃ q, s / 2 ^ n = q + 1 := ⟨s / 2 ^ n - 1, by omega⟩
    rw [hq]
    simp
    omega
theorem setB_nat (n s : Nat) : setB n (s : Int) = decide (s < 2 ^ n) := by
  unfold setB
  by_cases h : s < 2 ^ n
  · rw [decide_eq_true h, decide_eq_true ⟨by omega, by omega⟩]
  · rw [decide_eq_false h, decide_eq_false (by omega)]
theorem setB_neg {n : Nat} {k : Int} (h : k < 0) : setB n k = false := decide_eq_false (by omega)
theorem setB_t {n : Nat} {k : Int} (h : setB n k = true) : ∃ s : Nat, k = (s : Int) ∧ s < 2 ^ n := by
  have := of_decide_eq_true h
  exact ⟨k.toNat, by omega, by omega⟩
end Go.Proofs.YtpfodikmidgpmaaDoor
