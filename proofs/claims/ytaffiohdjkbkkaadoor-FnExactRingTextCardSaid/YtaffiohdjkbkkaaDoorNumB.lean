/- Contracts of powers, quotients and fractions of chapter 1. -/
import Derived.Test.YtaffiohdjkbkkaaDoorNumA
namespace Go.Proofs.YtaffiohdjkbkkaaDoor
open Go.RowKit

theorem pwI_toNat (a k : Int) : (pwI a k).toNat = a.toNat ^ k.toNat % 55441 := by unfold pwI; omega
theorem neg_exp (K : Int) (h : K < 0) : 0 ≤ K.tmod 55440 + 55440 ∧ K.tmod 55440 + 55440 ≤ 55440 ∧ (K.tmod 55440 + 55440) % 55440 = K % 55440 := by
  rcases tmod_cases K 55440 with ⟨h', e⟩ | ⟨h', e⟩ <;> rw [e] <;> omega
/-- a power with a negative exponent, as the quotient -/
theorem neg_pow (a K : Int) (h0 : 0 < a) (h1 : a < 55441) (h : K < 0) : pwI (pwI a 55439) (-K) = pwI a (K.tmod 55440 + 55440) := by
  have hn := neg_exp K h
  generalize K.tmod 55440 + 55440 = x at *
  have hx : x.toNat % 55440 = (55439 * (-K).toNat) % 55440 := by
    obtain ⟨m, rfl⟩ : ∃ m : Nat, K = -(m : Int) := ⟨(-K).toNat, by omega⟩
    omega
  have ha : a.toNat % 55441 ≠ 0 := by omega
  have key : (pwI a 55439).toNat ^ (-K).toNat % 55441 = a.toNat ^ x.toNat % 55441 := by
    rw [pwI_toNat, ← Nat.pow_mod]
    have e9 : (55439 : Int).toNat = 55439 := rfl
    rw [e9]
    generalize (-K).toNat = m at *
    generalize hN : (55439 : Nat) = N at *
    rw [← Nat.pow_mul, NT.pow_red a.toNat (N * m) ha, NT.pow_red a.toNat x.toNat ha, hx]
  show ((_ : Nat) : Int) = ((_ : Nat) : Int)
  rw [key]
end Go.Proofs.YtaffiohdjkbkkaaDoor
