/- What FnNumbers asks: quotients undo products, exponents are added. -/
import Derived.Test.YtjmkmcabpjmkgaaNumC
namespace Go.Proofs.Ytjmkmcabpjmkgaa
open Go.RowKit
theorem mulmod3 (a i b : Int) (h : b * i % 55441 = 1) (h0 : 0 ≤ a) (h1 : a < 55441) : a * i % 55441 * b % 55441 = a := by
  have e : (a * i % 55441) * b % 55441 = a * i * b % 55441 := by rw [Int.mul_emod, Int.emod_emod_of_dvd _ (Int.dvd_refl _), ← Int.mul_emod]
  rw [e, Int.mul_assoc, Int.mul_comm i b, Int.mul_emod, h]
  omega
theorem inv_int (b : Int) (h0 : 0 < b) (h1 : b < 55441) : b * pwI b 55439 % 55441 = 1 := by
  have h := NT.inv_mul b.toNat (by omega)
  unfold pwI
  have e1 : (55439 : Int).toNat = 55439 := rfl
  rw [e1]
  generalize b.toNat ^ 55439 % 55441 = x at *
  obtain ⟨m, rfl⟩ := Int.eq_ofNat_of_zero_le (show 0 ≤ b by omega)
  rw [Int.toNat_natCast] at h
  rw [← Int.natCast_mul]
  omega
theorem div_facts {a b : Int} (h : cDiv a b = 0) : numB a = true ∧ numB b = true ∧ 0 < b ∧ b < 55441 ∧ 0 ≤ a ∧ a < 55441 ∧ numB (fDiv a b) = true ∧ fMul (fDiv a b) b = a := by
  unfold cDiv at h
  by_cases hab : (numB a && numB b) = true
  · rw [if_pos hab] at h
    have ha : numB a = true := by simp at hab; exact hab.1
    have hb : numB b = true := by simp at hab; exact hab.2
    have hz : b ≠ 0 := fun e => by rw [if_pos e] at h; omega
    have a1 := numB_t ha
    have b1 := numB_t hb
    have hi := inv_int b (by omega) (by omega)
    have e : fDiv a b = a * pwI b 55439 % 55441 := by simp [fDiv, ha, hb, hz]
    have hq : numB (fDiv a b) = true := by rw [e]; exact numB_mk (Int.emod_nonneg _ (by decide)) (Int.emod_lt_of_pos _ (by decide))
    refine ⟨ha, hb, by omega, b1.2, a1.1, a1.2, hq, ?_⟩
    have e2 : fMul (fDiv a b) b = fDiv a b * b % 55441 := by simp [fMul, hq, hb]
    rw [e2, e]
    exact mulmod3 a _ b hi a1.1 a1.2
  · rw [if_neg hab] at h; omega
theorem frac_law {x y : Int} (h : cFrac x y = 0) : fFrac x y * (y % 55441) % 55441 = x % 55441 ∧ 0 ≤ fFrac x y ∧ fFrac x y < 55441 := by
  unfold cFrac at h
  by_cases hab : (big9 x && big9 y) = true
  · rw [if_pos hab] at h
    have ha : big9 x = true := by simp at hab; exact hab.1
    have hb : big9 y = true := by simp at hab; exact hab.2
    have hz : y % 55441 ≠ 0 := fun e => by rw [if_pos e] at h; omega
    have e : fFrac x y = x % 55441 * pwI (y % 55441) 55439 % 55441 := by simp [fFrac, ha, hb, hz]
    rw [e]
    refine ⟨mulmod3 _ _ _ (inv_int _ (by omega) (by omega)) (by omega) (by omega), Int.emod_nonneg _ (by decide), Int.emod_lt_of_pos _ (by decide)⟩
  · rw [if_neg hab] at h; omega
theorem fFrac_bd (x y : Int) : 0 ≤ fFrac x y ∧ fFrac x y < 55441 := by
  unfold fFrac
  split
  · exact ⟨Int.emod_nonneg _ (by decide), Int.emod_lt_of_pos _ (by decide)⟩
  · omega
theorem pow_int (b k : Int) (h0 : 0 < b) (h1 : b < 55441) (hk : -1000000 ≤ k) (hk' : k ≤ 1000000) : cPow b k = 0 ∧ ∃ E : Nat, (E : Int) % 55440 = k % 55440 ∧ fPow b k = ((b.toNat ^ E % 55441 : Nat) : Int) := by
  have hb : numB b = true := numB_mk (by omega) h1
  have he : exp6 k = true := inB_mk hk hk'
  have hz : ¬ b = 0 := by omega
  refine ⟨by simp [cPow, hb, he, hz], ?_⟩
  by_cases hn : k < 0
  · obtain ⟨n0, n1, n2⟩ := neg_exp k hn
    refine ⟨(k.tmod 55440 + 55440).toNat, by omega, ?_⟩
    simp [fPow, hb, he, hn, hz, pwI]
  · refine ⟨k.toNat, by omega, ?_⟩
    simp [fPow, hb, he, hn, pwI]
theorem pow_law (b m n : Int) (h0 : 0 < b) (h1 : b < 55441) (m0 : -1000 ≤ m) (m1 : m ≤ 1000) (n0 : -1000 ≤ n) (n1 : n ≤ 1000) : fPow b m * fPow b n % 55441 = fPow b (m + n) := by
  obtain ⟨_, E, hE, e1⟩ := pow_int b m h0 h1 (by omega) (by omega)
  obtain ⟨_, F, hF, e2⟩ := pow_int b n h0 h1 (by omega) (by omega)
  obtain ⟨_, G, hG, e3⟩ := pow_int b (m + n) h0 h1 (by omega) (by omega)
  have ha : b.toNat % 55441 ≠ 0 := by omega
  have key : (b.toNat ^ E % 55441) * (b.toNat ^ F % 55441) % 55441 = b.toNat ^ G % 55441 := by
    rw [← NT.pow_add_mod, NT.pow_red b.toNat (E + F) ha, NT.pow_red b.toNat G ha, show (E + F) % 55440 = G % 55440 by omega]
  rw [e1, e2, e3, ← key]
  generalize b.toNat ^ E % 55441 = u
  generalize b.toNat ^ F % 55441 = v
  rw [← Int.natCast_mul]
  omega
theorem fPow_bd (b m : Int) (h0 : 0 < b) (h1 : b < 55441) (hk : -1000000 ≤ m) (hk' : m ≤ 1000000) : 0 ≤ fPow b m ∧ fPow b m < 55441 := by
  obtain ⟨_, E, _, e⟩ := pow_int b m h0 h1 hk hk'
  rw [e]; omega
theorem add_facts {a b : Int} (ha : numB a = true) (hb : numB b = true) : c2 a b = 0 ∧ numB (fAdd a b) = true ∧ fAdd a b = (a + b) % 55441 := by
  have e : fAdd a b = (a + b) % 55441 := by simp [fAdd, ha, hb]
  exact ⟨by simp [c2, ha, hb], by rw [e]; exact numB_mk (by omega) (by omega), e⟩
theorem c2_zero {a b : Int} (ha : numB a = true) (hb : numB b = true) : c2 a b = 0 := by simp [c2, ha, hb]
theorem less_law {a b : Int} (ha : numB a = true) (hb : numB b = true) : fSub (fAdd a b) b = a := by
  obtain ⟨_, h2, e⟩ := add_facts ha hb
  have a1 := numB_t ha
  have b1 := numB_t hb
  have : fSub (fAdd a b) b = (fAdd a b - b) % 55441 := by simp [fSub, h2, hb]
  rw [this, e]; omega
theorem left_law {a b c : Int} (ha : numB a = true) (hb : numB b = true) (hc : numB c = true) : fMul (fAdd a b) c = (a * c % 55441 + b * c) % 55441 := by
  obtain ⟨_, h2, e⟩ := add_facts ha hb
  have : fMul (fAdd a b) c = fAdd a b * c % 55441 := by simp [fMul, h2, hc]
  rw [this, e]
  have e1 : (a + b) % 55441 * c % 55441 = (a + b) * c % 55441 := by rw [Int.mul_emod, Int.emod_emod_of_dvd _ (Int.dvd_refl _), ← Int.mul_emod]
  rw [e1, Int.add_mul]; omega
end Go.Proofs.Ytjmkmcabpjmkgaa
