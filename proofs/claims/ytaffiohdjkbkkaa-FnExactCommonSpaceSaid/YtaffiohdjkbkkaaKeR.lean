/- KernelBasis of both. -/
import Derived.Test.YtaffiohdjkbkkaaKes
namespace Go.Proofs.Ytaffiohdjkbkkaa
open Go.RowKit
set_option linter.unusedSimpArgs false
open Classical in
noncomputable def kerQ (n m : Nat) (A : Mat) : Nat := if h : ∃ q Z, q ≤ m ∧ IsKer n m A q Z then Classical.choose h else 0
open Classical in
noncomputable def kerZ (n m : Nat) (A : Mat) : Mat := if h : ∃ Z, kerQ n m A ≤ m ∧ IsKer n m A (kerQ n m A) Z then Classical.choose h else fun _ _ => 0
theorem ker_eq {n m q : Nat} {A Z : Mat} (hq : q ≤ m) (h : IsKer n m A q Z) : kerQ n m A = q ∧ ∀ i, i < q → ∀ j, j < m → Z i j = kerZ n m A i j := by
  have h1 : ∃ q Z, q ≤ m ∧ IsKer n m A q Z := ⟨q, Z, hq, h⟩
  have h2 : ∃ Z, kerQ n m A ≤ m ∧ IsKer n m A (kerQ n m A) Z := by
    unfold kerQ
    rw [dif_pos h1]
    exact Classical.choose_spec h1
  have h3 : IsKer n m A (kerQ n m A) (kerZ n m A) := by
    have h4 := (Classical.choose_spec h2).2
    unfold kerZ
    rw [dif_pos h2]
    exact h4
  obtain ⟨e, e2⟩ := h.unique h3
  exact ⟨e.symm, e2⟩
theorem kerQ_le (n m : Nat) (A : Mat) : kerQ n m A ≤ m := by
  by_cases h : ∃ q Z, q ≤ m ∧ IsKer n m A q Z
  · unfold kerQ
    rw [dif_pos h]
    obtain ⟨Z, hZ, _⟩ := Classical.choose_spec h
    exact hZ
  · unfold kerQ
    rw [dif_neg h]
    omega
theorem implKer_f_rows (n : Nat) (L : Nat → Nat) (f : Nat → Nat → Int) : nIf (matB n L f) (kerQ n (L 0) (kM f)) ≤ 64 := by
  cases hm : matB n L f
  · show nIf false _ ≤ 64
    unfold nIf; simp
  · obtain ⟨d0, d1, d2, d3, d4, d5⟩ := matB_dims hm
    have := kerQ_le n (L 0) (kM f)
    show nIf true _ ≤ 64
    unfold nIf; simp; omega
theorem implKer_f_cols (n : Nat) (L : Nat → Nat) (f : Nat → Nat → Int) : ∀ i, i < nIf (matB n L f) (kerQ n (L 0) (kM f)) → L 0 ≤ 64 := by
  cases hm : matB n L f
  · intro i hi
    unfold nIf at hi; simp at hi
  · intro i hi
    obtain ⟨d0, d1, d2, d3, d4, d5⟩ := matB_dims hm
    omega
end Go.Proofs.Ytaffiohdjkbkkaa
