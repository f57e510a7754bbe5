/- The order of a number by the factors of 55440 with their multiplicities, without Go. -/
import Derived.Test.YtjmkmcabpjmkgaaDoorNt
namespace Go.Proofs.YtjmkmcabpjmkgaaDoor
open Go.Proofs.YtjmkmcabpjmkgaaDoor.NT
/-- the factor at a place of unitFactors -/
def unitAt (k : Nat) : Nat := if k < 4 then 2 else if k < 6 then 3 else if k = 6 then 5 else if k = 7 then 7 else 11
theorem unitAt_bd (k : Nat) : 2 ≤ unitAt k ∧ unitAt k ≤ 11 := by unfold unitAt; repeat' split
                                                                 all_goals omega
/-- i of e copies of p are done -/
def Ph (a o p e i : Nat) : Prop := a ^ (o / p) % 55441 ≠ 1 ∨ (o ∣ 55440 / p ^ i ∧ p ^ (e - i) ∣ o)
theorem ph_dvd {a o p e i : Nat} (h : Ph a o p e i) (hi : i < e) (h1 : a ^ (o / p) % 55441 = 1) : o ∣ 55440 / p ^ i ∧ p ^ (e - i) ∣ o ∧ p ∣ o := by
  rcases h with h | ⟨h, h'⟩
  · exact absurd h1 h
  · refine ⟨h, h', Nat.dvd_trans ?_ h'⟩
    obtain ⟨m, hm⟩ : ∃ m, e - i = m + 1 := ⟨e - i - 1, by omega⟩
    rw [hm, Nat.pow_succ]; exact Nat.dvd_mul_left _ _
theorem ph_yes {a o p e i : Nat} (hp : 0 < p) (h : Ph a o p e i) (hi : i < e) (h1 : a ^ (o / p) % 55441 = 1) : p ∣ o ∧ Ph a (o / p) p e (i + 1) := by
  obtain ⟨g1, g2, g3⟩ := ph_dvd h hi h1
  refine ⟨g3, Or.inr ⟨?_, ?_⟩⟩
  · rw [Nat.pow_succ, ← Nat.div_div_eq_div_mul]
    exact Nat.div_dvd_div g3 g1
  · obtain ⟨m, hm⟩ : ∃ m, e - i = m + 1 := ⟨e - i - 1, by omega⟩
    have hm' : e - (i + 1) = m := by omega
    rw [hm, Nat.pow_succ] at g2
    rw [hm']
    obtain ⟨c, rfl⟩ := g2
    rw [Nat.mul_comm (p ^ m) p, Nat.mul_assoc, Nat.mul_div_cancel_left _ hp]
    exact ⟨c, rfl⟩
theorem ph_no {a o p e i : Nat} (h1 : ¬ a ^ (o / p) % 55441 = 1) : Ph a o p e (i + 1) := Or.inl h1
theorem ph_end {a o p e : Nat} (h : Ph a o p e e) (hn : ¬ p ∣ 55440 / p ^ e) : Fine a o p := by
  rcases h with h | ⟨h, _⟩
  · exact fun g => h g.2
  · exact fun g => hn (Nat.dvd_trans (Nat.dvd_of_mod_eq_zero g.1) h)
theorem ph_start {a o p e : Nat} (h : o ∣ 55440) (h' : p ^ e ∣ o) : Ph a o p e 0 := Or.inr ⟨by simpa using h, by simpa using h'⟩
/-- what holds at the head of the loop of order -/
structure OrdI (a k o : Nat) : Prop where
  dvd : o ∣ 55440
  one : a ^ o % 55441 = 1
  p2 : k ≤ 4 → Ph a o 2 4 k
  f2 : 4 ≤ k → Fine a o 2
  d3 : k ≤ 4 → 9 ∣ o
  p3 : 4 ≤ k → k ≤ 6 → Ph a o 3 2 (k - 4)
  f3 : 6 ≤ k → Fine a o 3
  d5 : k ≤ 6 → 5 ∣ o
  p5 : 6 ≤ k → k ≤ 7 → Ph a o 5 1 (k - 6)
  f5 : 7 ≤ k → Fine a o 5
  d7 : k ≤ 7 → 7 ∣ o
  p7 : 7 ≤ k → k ≤ 8 → Ph a o 7 1 (k - 7)
  f7 : 8 ≤ k → Fine a o 7
  d11 : k ≤ 8 → 11 ∣ o
  p11 : 8 ≤ k → k ≤ 9 → Ph a o 11 1 (k - 8)
  f11 : 9 ≤ k → Fine a o 11
theorem ordI_start (a : Nat) (h : a % 55441 ≠ 0) : OrdI a 0 55440 :=
  ⟨Nat.dvd_refl _, fermat a h, fun _ => ph_start (Nat.dvd_refl _) (by decide), by omega, fun _ => by decide, by omega, by omega, fun _ => by decide, by omega, by omega, fun _ => by decide, by omega, by omega, fun _ => by decide, by omega, by omega⟩
theorem ordI_end {a o : Nat} (h : OrdI a 9 o) : IsOrder a o :=
  ⟨h.dvd, h.one, h.f2 (by omega), h.f3 (by omega), h.f5 (by omega), h.f7 (by omega), h.f11 (by omega)⟩
theorem ordI_phase {a k o : Nat} (h : OrdI a k o) (hk : k < 9) : ∃ e i, i < e ∧ Ph a o (unitAt k) e i := by
  by_cases h1 : k < 4
  · exact ⟨4, k, h1, by simpa [unitAt, h1] using h.p2 (by omega)⟩
  by_cases h2 : k < 6
  · exact ⟨2, k - 4, by omega, by simpa [unitAt, h1, h2] using h.p3 (by omega) (by omega)⟩
  by_cases h3 : k = 6
  · exact ⟨1, k - 6, by omega, by simpa [unitAt, h1, h2, h3] using h.p5 (by omega) (by omega)⟩
  by_cases h4 : k = 7
  · exact ⟨1, k - 7, by omega, by simpa [unitAt, h1, h2, h3, h4] using h.p7 (by omega) (by omega)⟩
  · exact ⟨1, k - 8, by omega, by simpa [unitAt, h1, h2, h3, h4] using h.p11 (by omega) (by omega)⟩
theorem ordI_no {a k o : Nat} (h : OrdI a k o) (hk : k < 9) (h1 : ¬ a ^ (o / unitAt k) % 55441 = 1) : OrdI a (k + 1) o := by
  have hk' : k = 0 ∨ k = 1 ∨ k = 2 ∨ k = 3 ∨ k = 4 ∨ k = 5 ∨ k = 6 ∨ k = 7 ∨ k = 8 := by omega
  have s3 : 4 ≤ k + 1 → k + 1 ≤ 4 → Ph a o 3 2 0 := fun _ _ => ph_start h.dvd (h.d3 (by omega))
  have s5 : k + 1 ≤ 6 → Ph a o 5 1 0 := fun _ => ph_start h.dvd (by simpa using h.d5 (by omega))
  have s7 : k + 1 ≤ 7 → Ph a o 7 1 0 := fun _ => ph_start h.dvd (by simpa using h.d7 (by omega))
  have s11 : k + 1 ≤ 8 → Ph a o 11 1 0 := fun _ => ph_start h.dvd (by simpa using h.d11 (by omega))
  rcases hk' with rfl | rfl | rfl | rfl | rfl | rfl | rfl | rfl | rfl
  all_goals
    simp [unitAt] at h1
    constructor
    · exact h.dvd
    · exact h.one
    · intro g; first | exact ph_no h1 | omega
    · intro g; first | exact h.f2 (by omega) | exact fun x => h1 x.2 | omega
    · intro g; first | exact h.d3 (by omega) | omega
    · intro g g'; first | exact s3 (by omega) (by omega) | exact ph_no h1 | omega
    · intro g; first | exact h.f3 (by omega) | exact fun x => h1 x.2 | omega
    · intro g; first | exact h.d5 (by omega) | omega
    · intro g g'; first | exact s5 (by omega) | exact ph_no h1 | omega
    · intro g; first | exact h.f5 (by omega) | exact fun x => h1 x.2 | omega
    · intro g; first | exact h.d7 (by omega) | omega
    · intro g g'; first | exact s7 (by omega) | exact ph_no h1 | omega
    · intro g; first | exact h.f7 (by omega) | exact fun x => h1 x.2 | omega
    · intro g; first | exact h.d11 (by omega) | omega
    · intro g g'; first | exact s11 (by omega) | exact ph_no h1 | omega
    · intro g; first | exact h.f11 (by omega) | exact fun x => h1 x.2 | omega
theorem ordI_dvd {a k o : Nat} (h : OrdI a k o) (hk : k < 9) (h1 : a ^ (o / unitAt k) % 55441 = 1) : unitAt k ∣ o := by
  obtain ⟨e, i, hi, hp⟩ := ordI_phase h hk
  exact (ph_dvd hp hi h1).2.2
theorem ordI_yes {a k o : Nat} (h : OrdI a k o) (hk : k < 9) (h1 : a ^ (o / unitAt k) % 55441 = 1) : OrdI a (k + 1) (o / unitAt k) := by
  have hd := ordI_dvd h hk h1
  have hdd : o / unitAt k ∣ 55440 := Nat.dvd_trans (Nat.div_dvd_of_dvd hd) h.dvd
  have hpos : 0 < unitAt k := by have := unitAt_bd k; omega
  have hF : ∀ q, Fine a o q → Fine a (o / unitAt k) q := fun q hq => fine_of_div a o (unitAt k) q (Nat.mod_eq_zero_of_dvd hd) hpos hq
  have y2 : k < 4 → Ph a (o / unitAt k) 2 4 (k + 1) := fun g => by
    have e : unitAt k = 2 := by simp [unitAt, g]
    rw [e] at h1 ⊢; exact (ph_yes (by omega) (h.p2 (by omega)) g h1).2
  have y3 : 4 ≤ k → k < 6 → Ph a (o / unitAt k) 3 2 (k - 4 + 1) := fun g g' => by
    have e : unitAt k = 3 := by simp [unitAt, g', show ¬ k < 4 by omega]
    rw [e] at h1 ⊢; exact (ph_yes (by omega) (h.p3 (by omega) (by omega)) (by omega) h1).2
  have y5 : k = 6 → Ph a (o / unitAt k) 5 1 1 := fun g => by
    have e : unitAt k = 5 := by simp [unitAt, g]
    rw [e] at h1 ⊢; exact (ph_yes (by omega) (by simpa [g] using h.p5 (by omega) (by omega)) (by omega) h1).2
  have y7 : k = 7 → Ph a (o / unitAt k) 7 1 1 := fun g => by
    have e : unitAt k = 7 := by simp [unitAt, g]
    rw [e] at h1 ⊢; exact (ph_yes (by omega) (by simpa [g] using h.p7 (by omega) (by omega)) (by omega) h1).2
  have y11 : k = 8 → Ph a (o / unitAt k) 11 1 1 := fun g => by
    have e : unitAt k = 11 := by simp [unitAt, g]
    rw [e] at h1 ⊢; exact (ph_yes (by omega) (by simpa [g] using h.p11 (by omega) (by omega)) (by omega) h1).2
  have d3 : k + 1 ≤ 4 → 9 ∣ o / unitAt k := fun g => by
    have e : unitAt k = 2 := by simp [unitAt, show k < 4 by omega]
    have := h.d3 (by omega); rw [e] at hd ⊢; omega
  have d5 : k + 1 ≤ 6 → 5 ∣ o / unitAt k := fun g => by
    have e : unitAt k = 2 ∨ unitAt k = 3 := by unfold unitAt; split <;> simp; omega
    have := h.d5 (by omega); rcases e with e | e <;> rw [e] at hd ⊢ <;> omega
  have d7 : k + 1 ≤ 7 → 7 ∣ o / unitAt k := fun g => by
    have e : unitAt k = 2 ∨ unitAt k = 3 ∨ unitAt k = 5 := by unfold unitAt; (repeat' split) <;> first | omega | simp
    have := h.d7 (by omega); rcases e with e | e | e <;> rw [e] at hd ⊢ <;> omega
  have d11 : k + 1 ≤ 8 → 11 ∣ o / unitAt k := fun g => by
    have e : unitAt k = 2 ∨ unitAt k = 3 ∨ unitAt k = 5 ∨ unitAt k = 7 := by unfold unitAt; (repeat' split) <;> first | omega | simp
    have := h.d11 (by omega); rcases e with e | e | e | e <;> rw [e] at hd ⊢ <;> omega
  constructor
  · exact hdd
  · exact h1
  · intro g; exact y2 (by omega)
  · intro g
    by_cases g4 : 4 ≤ k
    · exact hF 2 (h.f2 g4)
    · have e4 : k + 1 = 4 := by omega
      exact ph_end (e := 4) (by have := y2 (by omega); rw [e4] at this; exact this) (by decide)
  · exact d3
  · intro g g'
    by_cases g4 : 4 ≤ k
    · have e : k + 1 - 4 = k - 4 + 1 := by omega
      rw [e]; exact y3 g4 (by omega)
    · have e : k + 1 - 4 = 0 := by omega
      rw [e]; exact ph_start hdd (d3 (by omega))
  · intro g
    by_cases g6 : 6 ≤ k
    · exact hF 3 (h.f3 g6)
    · have e5 : k - 4 + 1 = 2 := by omega
      exact ph_end (e := 2) (by have := y3 (by omega) (by omega); rw [e5] at this; exact this) (by decide)
  · exact d5
  · intro g g'
    by_cases g6 : 6 ≤ k
    · have e : k + 1 - 6 = 1 := by omega
      rw [e]; exact y5 (by omega)
    · have e : k + 1 - 6 = 0 := by omega
      rw [e]; exact ph_start hdd (by simpa using d5 (by omega))
  · intro g
    by_cases g7 : 7 ≤ k
    · exact hF 5 (h.f5 g7)
    · exact ph_end (e := 1) (y5 (by omega)) (by decide)
  · exact d7
  · intro g g'
    by_cases g7 : 7 ≤ k
    · have e : k + 1 - 7 = 1 := by omega
      rw [e]; exact y7 (by omega)
    · have e : k + 1 - 7 = 0 := by omega
      rw [e]; exact ph_start hdd (by simpa using d7 (by omega))
  · intro g
    by_cases g8 : 8 ≤ k
    · exact hF 7 (h.f7 g8)
    · exact ph_end (e := 1) (y7 (by omega)) (by decide)
  · exact d11
  · intro g g'
    by_cases g8 : 8 ≤ k
    · have e : k + 1 - 8 = 1 := by omega
      rw [e]; exact y11 (by omega)
    · have e : k + 1 - 8 = 0 := by omega
      rw [e]; exact ph_start hdd (by simpa using d11 (by omega))
  · intro g; exact ph_end (e := 1) (y11 (by omega)) (by decide)
def lgOf (N a : Nat) : Nat := ((List.range N).find? fun k => 38 ^ k % 55441 == a).getD 0
theorem lgOf_spec (N a : Nat) (h : ∃ k, k < N ∧ 38 ^ k % 55441 = a) : 38 ^ lgOf N a % 55441 = a ∧ lgOf N a < N := by
  obtain ⟨k, hk, e⟩ := h
  unfold lgOf
  cases hf : (List.range N).find? fun k => 38 ^ k % 55441 == a with
  | none =>
    have := List.find?_eq_none.1 hf k (List.mem_range.2 hk)
    simp [e] at this
  | some x =>
    have h1 := List.find?_some hf
    have h2 := List.mem_range.1 (List.mem_of_find?_eq_some hf)
    exact ⟨by simpa using h1, h2⟩
/-- the logarithm -/
def lgN (a : Nat) : Nat := lgOf 55440 a
theorem lgN_spec (a : Nat) (h1 : 1 ≤ a) (h2 : a < 55441) : 38 ^ lgN a % 55441 = a ∧ lgN a < 55440 := lgOf_spec 55440 a (log_ex a h1 h2)
/-- the known remainders' modulus -/
def knownAt (i : Nat) : Nat := [1, 2, 4, 8, 16, 48, 144, 720, 5040, 55440].getD i 55440
theorem knownAt_succ (i : Nat) (h : i < 9) : knownAt (i + 1) = knownAt i * unitAt i ∧ knownAt (i + 1) ∣ 55440 ∧ 1 ≤ knownAt i ∧ knownAt i ≤ 5040 := by
  have hi : i = 0 ∨ i = 1 ∨ i = 2 ∨ i = 3 ∨ i = 4 ∨ i = 5 ∨ i = 6 ∨ i = 7 ∨ i = 8 := by omega
  rcases hi with rfl | rfl | rfl | rfl | rfl | rfl | rfl | rfl | rfl <;> decide
theorem digit_lt (L kn p t : Nat) (hkn : 0 < kn) (ht : t < p) : L % kn + t * kn < kn * p := by
  have h1 := Nat.mod_lt L hkn
  have h2 : (t + 1) * kn ≤ p * kn := Nat.mul_le_mul_right kn ht
  rw [Nat.add_mul, Nat.one_mul, Nat.mul_comm p kn] at h2
  omega
theorem log_digit (a L kn p t : Nat) (hkn : 0 < kn) (hM : kn * p ∣ 55440) (ht : t < p) (ha : 38 ^ L % 55441 = a) :
    38 ^ ((L % kn + t * kn) * (55440 / (kn * p))) % 55441 = a ^ (55440 / (kn * p)) % 55441 ↔ L / kn % p = t := by
  rw [pow_log a L _ ha, log_test _ L _ hM, Nat.mod_eq_of_lt (digit_lt L kn p t hkn ht), Nat.mod_mul, Nat.mul_comm t kn]
  constructor
  · intro h
    exact (Nat.eq_of_mul_eq_mul_left hkn (by omega)).symm
  · intro h; rw [h]
end Go.Proofs.YtjmkmcabpjmkgaaDoor
