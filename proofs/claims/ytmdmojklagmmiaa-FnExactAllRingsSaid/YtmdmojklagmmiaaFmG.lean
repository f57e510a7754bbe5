/- Families of rings (the specification's): dihedral group rings. -/
import Derived.Test.YtmdmojklagmmiaaFmA
namespace Go.Proofs.Ytmdmojklagmmiaa
open Go.RowKit
set_option linter.unusedSimpArgs false
set_option linter.unusedVariables false
def dhZ (n x y : Nat) : Nat := (if x < n then (x % n + y % n) % n else (x % n + n - y % n) % n) + (if (x < n ∧ y < n) ∨ (¬ x < n ∧ ¬ y < n) then 0 else n)
theorem dhZ_lt {n x y : Nat} (h : 0 < n) : dhZ n x y < 2 * n := by
  unfold dhZ
  have h1 := Nat.mod_lt (x % n + y % n) h
  have h2 := Nat.mod_lt (x % n + n - y % n) h
  split <;> split <;> omega
def dhF (n x y z : Nat) : Int := if z = dhZ n x y then 1 else 0
def dhP (n x y : Nat) (a b c : Nat) : Int := if a < x ∨ (a = x ∧ b < y) then dhF n a b c else 0
theorem dhP_set {n x y z : Nat} (hz : z = dhZ n x y) (a b c : Nat) : (if a = x ∧ b = y ∧ c = z then (1 : Int) else dhP n x y a b c) = dhP n x (y + 1) a b c := by
  unfold dhP
  by_cases h : a = x ∧ b = y
  · obtain ⟨rfl, rfl⟩ := h
    rw [if_neg (show ¬ (a < a ∨ (a = a ∧ b < b)) by omega), if_pos (show a < a ∨ (a = a ∧ b < b + 1) by omega)]
    unfold dhF
    rw [← hz]
    by_cases h3 : c = z
    · rw [if_pos ⟨rfl, rfl, h3⟩, if_pos h3]
    · rw [if_neg (fun e => h3 e.2.2), if_neg h3]
  · rw [if_neg (fun e => h ⟨e.1, e.2.1⟩)]
    by_cases h2 : a < x ∨ (a = x ∧ b < y)
    · rw [if_pos h2, if_pos (show a < x ∨ (a = x ∧ b < y + 1) by omega)]
    · rw [if_neg h2, if_neg (show ¬ (a < x ∨ (a = x ∧ b < y + 1)) by omega)]
theorem dhP_row {n N x : Nat} (a b c : Nat) (hb : b < N) : dhP n x N a b c = dhP n (x + 1) 0 a b c := by
  unfold dhP
  by_cases h2 : a < x ∨ (a = x ∧ b < N)
  · rw [if_pos h2, if_pos (show a < x + 1 ∨ (a = x + 1 ∧ b < 0) by omega)]
  · rw [if_neg h2, if_neg (show ¬ (a < x + 1 ∨ (a = x + 1 ∧ b < 0)) by omega)]
end Go.Proofs.Ytmdmojklagmmiaa
