/- Families of rings (the specification's): near-group rings. -/
import Derived.Test.YtmdmojklagmmiaaFmC
namespace Go.Proofs.Ytmdmojklagmmiaa
open Go.RowKit
set_option linter.unusedSimpArgs false
set_option linter.unusedVariables false
def nearP (o : Nat → Int) (n N q : Nat) (i j k : Nat) : Int := if (i < q ∧ j = N ∧ k = N) ∨ (i = N ∧ j < q ∧ k = N) ∨ (i = N ∧ j = N ∧ k < q) then 1 else grpF o n N i j k
def nearF (o : Nat → Int) (n N : Nat) (kk : Int) (i j k : Nat) : Int := if i = N ∧ j = N ∧ k = N then kk else nearP o n N N i j k
theorem nearP_zero (o : Nat → Int) (n N i j k : Nat) : grpF o n N i j k = nearP o n N 0 i j k := by
  unfold nearP; rw [if_neg (by omega)]
theorem nearP_next {o : Nat → Int} {n N q : Nat} (hq : q < N) (a b k : Nat) :
    (if a = N ∧ b = N ∧ k = q then (1 : Int) else if a = N ∧ b = q ∧ k = N then 1 else if a = q ∧ b = N ∧ k = N then 1 else nearP o n N q a b k) = nearP o n N (q + 1) a b k := by
  unfold nearP
  by_cases h : (a < q + 1 ∧ b = N ∧ k = N) ∨ (a = N ∧ b < q + 1 ∧ k = N) ∨ (a = N ∧ b = N ∧ k < q + 1)
  · rw [if_pos h]
    by_cases h1 : a = N ∧ b = N ∧ k = q
    · rw [if_pos h1]
    · rw [if_neg h1]
      by_cases h2 : a = N ∧ b = q ∧ k = N
      · rw [if_pos h2]
      · rw [if_neg h2]
        by_cases h3 : a = q ∧ b = N ∧ k = N
        · rw [if_pos h3]
        · rw [if_neg h3, if_pos (show (a < q ∧ b = N ∧ k = N) ∨ (a = N ∧ b < q ∧ k = N) ∨ (a = N ∧ b = N ∧ k < q) by
            rcases h with e | e | e
            · exact Or.inl ⟨by have : a ≠ q := fun e1 => h3 ⟨e1, e.2⟩
                               omega, e.2⟩
            · exact Or.inr (Or.inl ⟨e.1, by have : b ≠ q := fun e1 => h2 ⟨e.1, e1, e.2.2⟩
                                            omega, e.2.2⟩)
            · exact Or.inr (Or.inr ⟨e.1, e.2.1, by have : k ≠ q := fun e1 => h1 ⟨e.1, e.2.1, e1⟩
                                                   omega⟩))]
  · rw [if_neg h, if_neg (show ¬ (a = N ∧ b = N ∧ k = q) from fun e => h (Or.inr (Or.inr ⟨e.1, e.2.1, by omega⟩))), if_neg (show ¬ (a = N ∧ b = q ∧ k = N) from fun e => h (Or.inr (Or.inl ⟨e.1, by omega, e.2.2⟩))), if_neg (show ¬ (a = q ∧ b = N ∧ k = N) from fun e => h (Or.inl ⟨by omega, e.2⟩)),
      if_neg (fun e => h (by
        rcases e with e | e | e
        · exact Or.inl ⟨by omega, e.2⟩
        · exact Or.inr (Or.inl ⟨e.1, by omega, e.2.2⟩)
        · exact Or.inr (Or.inr ⟨e.1, e.2.1, by omega⟩)))]
end Go.Proofs.Ytmdmojklagmmiaa
