/- Dihedral rings: a product in the order in which the program takes its labels. -/
import Derived.Test.YtmdmojklagmmiaaDiQ
namespace Go.Proofs.Ytmdmojklagmmiaa
open Go.RowKit
set_option linter.unusedSimpArgs false
set_option linter.unusedVariables false
theorem dst_comm (a b : Nat) : dst a b = dst b a := by unfold dst; split <;> split <;> omega
theorem plL_comm (n h k z : Nat) : cnA (plL n h k) z = cnA (plL n k h) z := by
  unfold plL; rw [cnA_append, cnA_append, Nat.add_comm h k, dst_comm h k]
theorem diF_lines {n i j : Nat} (hi : i < dL n) (hj : j < dL n) (z : Nat) : diF n i j z = if z = (addO twoO (dM n) i j).toNat then 1 else 0 := by
  unfold diF grpF
  rw [if_pos ⟨hi, hj⟩]
  by_cases c : z = (addO twoO (dM n) (i : Int) (j : Int)).toNat
  · rw [if_pos ⟨hi, hj, c⟩, if_pos c]
  · rw [if_neg (fun q => c q.2.2), if_neg c]
theorem diF_comm (n i j z : Nat) : diF n i j z = diF n j i z := by
  by_cases hi : i < dL n
  · by_cases hj : j < dL n
    · rw [diF_lines hi hj, diF_lines hj hi, addO_comm]
    · have := diF_comm_line n i j z hi (by omega); rw [this.1, this.2]
  · by_cases hj : j < dL n
    · have := diF_comm_line n j i z hj (by omega); rw [this.1, this.2]
    · rw [diF_plane n i j z (by omega) (by omega), diF_plane n j i z (by omega) (by omega), plL_comm]
theorem diF_sort (n i j z : Nat) : diF n i j z = diF n (min i j) (max i j) z := by
  by_cases h : i ≤ j
  · rw [Nat.min_eq_left h, Nat.max_eq_right h]
  · rw [Nat.min_eq_right (by omega), Nat.max_eq_left (by omega), diF_comm]
theorem diF_planes {n i j : Nat} (hi : dL n ≤ i) (hj : dL n ≤ j) (z : Nat) : diF n i j z = cnA (tuL n (i - dL n + 1 + (j - dL n + 1))) z + cnA (tuL n (dst (i - dL n + 1) (j - dL n + 1))) z := by
  rw [diF_plane n i j z hi hj]; unfold plL; rw [cnA_append]
theorem diF_half {n i j : Nat} (hi : i < dL n) (h2 : 2 ≤ i) (hj : dL n ≤ j) (z : Nat) : diF n i j z = cnA (tuL n (n / 2 - (j - dL n + 1))) z := by
  rw [(diF_comm_line n i j z hi hj).1]; unfold lnL; rw [if_pos h2]
theorem diF_one {n i j : Nat} (hi : i < dL n) (h2 : i < 2) (hj : dL n ≤ j) (z : Nat) : diF n i j z = cnA (tuL n (j - dL n + 1)) z := by
  rw [(diF_comm_line n i j z hi hj).1]; unfold lnL; rw [if_neg (by omega)]
/-- the lines' sum is a line -/
theorem addO_line (n : Nat) (x y : Int) : 0 ≤ addO twoO (dM n) x y ∧ addO twoO (dM n) x y < dL n := by
  have h := addO_bd (o := twoO) (m := dM n) x y (fun _ _ => by unfold twoO; omega)
  rw [dL_prod] at h
  exact h
/-- the planes' numbers -/
theorem dR_plane {n j : Nat} (h1 : 1 ≤ n) (hj : j < dR n) (hl : dL n ≤ j) : 1 ≤ j - dL n + 1 ∧ 2 * (j - dL n + 1) < n := by
  unfold dR at hj; omega
end Go.Proofs.Ytmdmojklagmmiaa
