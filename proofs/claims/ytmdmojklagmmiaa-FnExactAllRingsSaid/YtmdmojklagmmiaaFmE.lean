/- Families of rings (the specification's): rings of spins. -/
import Derived.Test.YtmdmojklagmmiaaFmA
import Derived.Lib.MinMax
namespace Go.Proofs.Ytmdmojklagmmiaa
open Go.RowKit
set_option linter.unusedSimpArgs false
set_option linter.unusedVariables false
def spL (st i j : Nat) : Nat := if i * st ≤ j * st then j * st - i * st else i * st - j * st
def spH (lev st i j : Nat) : Nat := if i * st + j * st ≤ lev then i * st + j * st else 2 * lev - i * st - j * st
open Classical in
noncomputable def spT (st i j t k : Nat) : Int := if ∃ u, u < t ∧ k = (spL st i j + 2 * u) / st then 1 else 0
open Classical in
noncomputable def spinF (lev st i j k : Nat) : Int := if ∃ u, spL st i j + 2 * u ≤ spH lev st i j ∧ k = (spL st i j + 2 * u) / st then 1 else 0
noncomputable def spinP (lev st i j t : Nat) (a b k : Nat) : Int := if a < i ∨ (a = i ∧ b < j) then spinF lev st a b k else if a = i ∧ b = j then spT st i j t k else 0
theorem spT_zero (st i j k : Nat) : spT st i j 0 k = 0 := by
  unfold spT; rw [if_neg (by rintro ⟨u, h, _⟩; omega)]
theorem spinP_set {lev st i j t x : Nat} (hx : x = (spL st i j + 2 * t) / st) (a b k : Nat) : (if a = i ∧ b = j ∧ k = x then (1 : Int) else spinP lev st i j t a b k) = spinP lev st i j (t + 1) a b k := by
  unfold spinP
  by_cases h1 : a < i ∨ (a = i ∧ b < j)
  · rw [if_neg (show ¬ (a = i ∧ b = j ∧ k = x) by omega), if_pos h1, if_pos h1]
  · rw [if_neg h1, if_neg h1]
    by_cases h2 : a = i ∧ b = j
    · rw [if_pos h2, if_pos h2]
      unfold spT
      by_cases h3 : k = x
      · rw [if_pos ⟨h2.1, h2.2, h3⟩, if_pos ⟨t, by omega, by rw [h3, hx]⟩]
      · rw [if_neg (fun e => h3 e.2.2)]
        by_cases h4 : ∃ u, u < t ∧ k = (spL st i j + 2 * u) / st
        · rw [if_pos h4]
          obtain ⟨u, h5, h6⟩ := h4
          rw [if_pos ⟨u, by omega, h6⟩]
        · rw [if_neg h4, if_neg]
          rintro ⟨u, h5, h6⟩
          by_cases e : u = t
          · exact h3 (by rw [h6, e, hx])
          · exact h4 ⟨u, by omega, h6⟩
    · rw [if_neg (fun e => h2 ⟨e.1, e.2.1⟩), if_neg h2, if_neg h2]
theorem spinP_next {lev st i j t : Nat} (hin : ∀ u, u < t → spL st i j + 2 * u ≤ spH lev st i j) (hout : spH lev st i j < spL st i j + 2 * t) (a b k : Nat) : spinP lev st i j t a b k = spinP lev st i (j + 1) 0 a b k := by
  unfold spinP
  by_cases h1 : a < i ∨ (a = i ∧ b < j)
  · rw [if_pos h1, if_pos (show a < i ∨ (a = i ∧ b < j + 1) by omega)]
  · rw [if_neg h1]
    by_cases h2 : a = i ∧ b = j
    · rw [if_pos h2, if_pos (show a < i ∨ (a = i ∧ b < j + 1) by omega)]
      obtain ⟨rfl, rfl⟩ := h2
      unfold spT spinF
      by_cases h4 : ∃ u, u < t ∧ k = (spL st a b + 2 * u) / st
      · rw [if_pos h4]
        obtain ⟨u, h5, h6⟩ := h4
        rw [if_pos ⟨u, hin u h5, h6⟩]
      · rw [if_neg h4, if_neg]
        rintro ⟨u, h5, h6⟩
        exact h4 ⟨u, by omega, h6⟩
    · rw [if_neg h2, if_neg (show ¬ (a < i ∨ (a = i ∧ b < j + 1)) by omega), spT_zero, ite_self]
theorem spinP_row {lev st i n : Nat} (a b k : Nat) (hb : b < n) : spinP lev st i n 0 a b k = spinP lev st (i + 1) 0 0 a b k := by
  unfold spinP
  rw [spT_zero, spT_zero, ite_self, ite_self]
  by_cases h : a < i ∨ (a = i ∧ b < n)
  · rw [if_pos h, if_pos (show a < i + 1 ∨ (a = i + 1 ∧ b < 0) by omega)]
  · rw [if_neg h, if_neg (show ¬ (a < i + 1 ∨ (a = i + 1 ∧ b < 0)) by omega)]
end Go.Proofs.Ytmdmojklagmmiaa
