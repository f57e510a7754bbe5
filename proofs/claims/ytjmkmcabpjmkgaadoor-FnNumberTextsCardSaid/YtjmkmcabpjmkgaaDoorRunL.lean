/- The window theorem. No Go. -/
import Derived.Test.YtjmkmcabpjmkgaaDoorRun
namespace Go.Proofs.YtjmkmcabpjmkgaaDoor.Run
theorem windows {f : Nat → Nat} (h t k : Nat) (V : Nat → Prop) (hV : ∀ t, t ≤ 1275068416 → V t ∨ V (t + 1)) (hZ : ∀ t, t ≤ 1275068417 → V t → zer (itf f t h) = true) (ht : t < 67108864) (hk : k ≤ 10) (j : Nat) (hj : j < k) : zer (itf f (j * 134217728) (itf f t h)) = true ∨ zer (itf f (j * 134217728 + 1) (itf f t h)) = true := by
  have hb : t + j * 134217728 ≤ 1275068416 := by omega
  rw [← it_add, ← it_add, ← Nat.add_assoc]
  generalize t + j * 134217728 = x at *
  rcases hV x hb with v | v
  · exact Or.inl (hZ _ (by omega) v)
  · exact Or.inr (hZ _ (by omega) v)
theorem even_no {f : Nat → Nat} (hf : Two f) (h : Nat) (V : Nat → Prop) (hV : ∀ t, t ≤ 1275068416 → V t ∨ V (t + 1)) (hZ : ∀ t, t ≤ 1275068417 → V t → zer (itf f t h) = true) (hp : h % 2 = 0) : False := by
  obtain ⟨y, hy⟩ : ∃ y, y = 31348964 := ⟨_, rfl⟩
  obtain ⟨t, ht, he⟩ := reach hf y 26 h (Nat.le_refl _) (by omega)
  rw [show (2 : Nat) ^ 26 = 67108864 by decide] at ht
  rw [show (2 : Nat) ^ (26 + 1) = 134217728 by decide] at he
  exact none0 hf _ (by omega) (windows h t 10 V hV hZ ht (by decide))
theorem odd_no {f : Nat → Nat} (hf : Two f) (h : Nat) (V : Nat → Prop) (hV : ∀ t, t ≤ 1275068416 → V t ∨ V (t + 1)) (hZ : ∀ t, t ≤ 1275068417 → V t → zer (itf f t h) = true) (hp : h % 2 = 1) : False := by
  obtain ⟨y, hy⟩ : ∃ y, y = 63201477 := ⟨_, rfl⟩
  obtain ⟨t, ht, he⟩ := reach hf y 26 h (Nat.le_refl _) (by omega)
  rw [show (2 : Nat) ^ 26 = 67108864 by decide] at ht
  rw [show (2 : Nat) ^ (26 + 1) = 134217728 by decide] at he
  exact none1 hf _ (by omega) (windows h t 9 V hV hZ ht (by decide))
/-- in a window of this length not all of the times in V have a number that is 0 mod 3, if of two neighbours one is in V -/
theorem no_long {f : Nat → Nat} (hf : Two f) (h : Nat) (V : Nat → Prop) (hV : ∀ t, t ≤ 1275068416 → V t ∨ V (t + 1)) (hZ : ∀ t, t ≤ 1275068417 → V t → zer (itf f t h) = true) : False :=
  (Nat.mod_two_eq_zero_or_one h).elim (even_no hf h V hV hZ) (odd_no hf h V hV hZ)
end Go.Proofs.YtjmkmcabpjmkgaaDoor.Run
