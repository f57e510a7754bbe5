/- Contracts of sums, differences, products of chapter 1. -/
import Derived.Test.YtaffiohdjkbkkaaNum
namespace Go.Proofs.Ytaffiohdjkbkkaa
open Go.RowKit

theorem tmod_cases (k m : Int) : (0 ≤ k ∧ k.tmod m = k % m) ∨ (k < 0 ∧ k.tmod m = -(-k % m)) := by
  by_cases h : 0 ≤ k
  · exact Or.inl ⟨h, Int.tmod_eq_emod_of_nonneg h⟩
  · refine Or.inr ⟨by omega, ?_⟩
    rw [← Int.tmod_eq_emod_of_nonneg (by omega : 0 ≤ -k), Int.neg_tmod, Int.neg_neg]
theorem mod_go (k : Int) : (k.tmod 55441 + 55441) % 55441 = k % 55441 := by
  rcases tmod_cases k 55441 with ⟨h, e⟩ | ⟨h, e⟩ <;> rw [e] <;> omega
theorem tmod_bd (k : Int) : -55441 < k.tmod 55441 ∧ k.tmod 55441 < 55441 := by
  rcases tmod_cases k 55441 with ⟨h, e⟩ | ⟨h, e⟩ <;> rw [e] <;> omega
theorem l01Mod_any (k : Int) (w : World) : Calls Try.prog 139 #[.int .i64 k] w fun e w' => e = .returned (.int .i64 (k % 55441)) ∧ w = w' := by
  have H := Lib.hid (mod_go k)
  obtain ⟨b1, b2⟩ := tmod_bd k
  go_enter Try.func139, Try.ntmps139
  go_wp2
  go_ret
  exact ⟨ret_int H.out, rfl⟩
end Go.Proofs.Ytaffiohdjkbkkaa
