/- Logarithms and square roots of chapter 1. -/
import Derived.Test.YtjmkmcabpjmkgaaDoorNumF
namespace Go.Proofs.YtjmkmcabpjmkgaaDoor
open Go.RowKit
theorem mul_bd (x y X Y : Int) (h0 : 0 ≤ x) (h1 : x ≤ X) (h2 : 0 ≤ y) (h3 : y ≤ Y) : 0 ≤ x * y ∧ x * y ≤ X * Y :=
  ⟨Int.mul_nonneg h0 h2, Int.mul_le_mul h1 h3 h2 (by omega)⟩
/-- the inner loop of a logarithm -/
def LogIn (L kn p : Nat) (kk : Int) (t : Nat) : Prop := kk = ((L % kn + (t - 1) * kn : Nat) : Int) ∧ t - 1 ≤ L / kn % p
theorem logIn_test (a : Int) (L kn p t : Nat) (kk E : Int) (hkn : 0 < kn) (hM : kn * p ∣ 55440) (ht0 : 1 ≤ t) (ht : t < p) (ha : 38 ^ L % 55441 = a.toNat) (hE : ((55440 / (kn * p) : Nat) : Int) = E) (h : LogIn L kn p kk t) :
    pwI 38 (kk * E) = pwI a E ↔ L / kn % p = t - 1 := by
  have := log_digit a.toNat L kn p (t - 1) hkn hM (by omega) ha
  rw [← this, ← hE, h.1]
  unfold pwI
  have e1 : ((55440 / (kn * p) : Nat) : Int).toNat = 55440 / (kn * p) := rfl
  have e2 : (((L % kn + (t - 1) * kn : Nat) : Int) * ((55440 / (kn * p) : Nat) : Int)).toNat = (L % kn + (t - 1) * kn) * (55440 / (kn * p)) := by rw [← Int.natCast_mul]; rfl
  have e3 : (38 : Int).toNat = 38 := rfl
  rw [e1, e2, e3]
  constructor <;> intro h <;> omega
theorem logIn_next {L kn p t : Nat} {kk : Int} (ht0 : 1 ≤ t) (ht : t < p) (h : LogIn L kn p kk t) (hne : ¬ L / kn % p = t - 1) : LogIn L kn p (kk + kn) (t + 1) := by
  refine ⟨?_, by have := h.2; omega⟩
  rw [h.1]
  have : (t + 1 - 1) * kn = (t - 1) * kn + kn := by
    obtain ⟨u, rfl⟩ : ∃ u, t = u + 1 := ⟨t - 1, by omega⟩
    simp [Nat.add_mul]
  omega
theorem logIn_end {L kn p t : Nat} {kk : Int} (h : LogIn L kn p kk t) (he : L / kn % p = t - 1) : kk = ((L % (kn * p) : Nat) : Int) := by
  rw [h.1, Nat.mod_mul, he, Nat.mul_comm]
theorem logIn_bd {L kn p t : Nat} {kk : Int} (hkn : 0 < kn) (hM : kn * p ≤ 55440) (h : LogIn L kn p kk t) (ht : t ≤ p) (ht0 : 1 ≤ t) : 0 ≤ kk ∧ kk ≤ 55440 := by
  rw [h.1]
  have := digit_lt L kn p (t - 1) hkn (by omega)
  omega
theorem log_any (a : Int) (w : World) (h0 : 0 < a) (h1 : a < 55441) (hT : UnitTab w) : Calls Tryd.prog 33 #[.int .i64 a] w fun e w' => e = .returned (.int .i64 (lgN a.toNat : Nat)) ∧ w = w' := by
  obtain ⟨hL, hLN⟩ := lgN_spec a.toNat (by omega) (by omega)
  generalize lgN a.toNat = L at *
  have HL := Lib.hid hL
  clear hL
  have t0 : w.cell? ⟨0, 0, none⟩ = some (.int .i64 2) := hT 0 (by omega)
  have t1 : w.cell? ⟨0, 1, none⟩ = some (.int .i64 2) := hT 1 (by omega)
  have t2 : w.cell? ⟨0, 2, none⟩ = some (.int .i64 2) := hT 2 (by omega)
  have t3 : w.cell? ⟨0, 3, none⟩ = some (.int .i64 2) := hT 3 (by omega)
  have t4 : w.cell? ⟨0, 4, none⟩ = some (.int .i64 3) := hT 4 (by omega)
  have t5 : w.cell? ⟨0, 5, none⟩ = some (.int .i64 3) := hT 5 (by omega)
  have t6 : w.cell? ⟨0, 6, none⟩ = some (.int .i64 5) := hT 6 (by omega)
  have t7 : w.cell? ⟨0, 7, none⟩ = some (.int .i64 7) := hT 7 (by omega)
  have t8 : w.cell? ⟨0, 8, none⟩ = some (.int .i64 11) := hT 8 (by omega)
  have H0 := Lib.hid (show (0 : Int) = ((L % knownAt 0 : Nat) : Int) by simp [knownAt, Nat.mod_one])
  go_enter Tryd.func33, Tryd.ntmps33
  go_wp2
  clear t0 t1 t2 t3 t4 t5 t6 t7 t8
  go_loop [3, 4, 6, 7, 8, 9, 11] (fun k kn _ _ _ _ i => ∃ j : Nat, j ≤ 9 ∧ i = .int .i64 j ∧ kn = .int .i64 (knownAt j : Nat) ∧ k = .int .i64 ((L % knownAt j : Nat) : Int)) (fun _ _ _ _ _ _ i => 9 - (intOf i).toNat)
  case atStart => exact ⟨0, by omega, rfl, rfl, by rw [← H0.out]⟩
  case round =>
    obtain ⟨j, hj, rfl, rfl, rfl⟩ := hrel
    by_cases hlt : j < 9
    · obtain ⟨hs, hMd, hk1, hk2⟩ := knownAt_succ j hlt
      have hidx := unit_index j hlt
      obtain ⟨hp1, hp2⟩ := unitAt_bd j
      rw [hs] at hMd
      have hMle := Nat.le_of_dvd (by omega) hMd
      have HS := Lib.hid hs
      clear hs
      generalize knownAt j = kn at *
      generalize unitAt j = p at *
      have HM := Lib.hid hMd
      clear hMd
      have b1 : 1 ≤ (kn : Int) * (p : Int) := by have := Nat.mul_le_mul hk1 hp1; omega
      have b2 : (kn : Int) * (p : Int) ≤ 55440 := by omega
      have c0 : 0 ≤ 55440 / ((kn : Int) * (p : Int)) := Int.ediv_nonneg (by omega) (by omega)
      have c1 : 55440 / ((kn : Int) * (p : Int)) ≤ 55440 := Int.ediv_le_self _ (by omega)
      have HE := Lib.hid (show ((55440 / (kn * p) : Nat) : Int) = 55440 / ((kn : Int) * (p : Int)) by rw [Int.natCast_ediv, Int.natCast_mul]; rfl)
      have hmod := Nat.mod_lt L (show 0 < kn by omega)
      have HI := Lib.hid (show LogIn L kn p ((L % kn : Nat) : Int) 1 from ⟨by simp, by simp⟩)
      go_wp2_with (go_at_call 40; refine (power_any _ _ _ (by omega) (by omega) (by omega) (by omega)).mono ?_; rintro e w' ⟨rfl, rfl⟩)
      go_loop [3, 9] (fun k t => ∃ (kk : Int) (tn : Nat), 1 ≤ tn ∧ tn ≤ p ∧ t = .int .i64 tn ∧ k = .int .i64 kk ∧ LogIn L kn p kk tn) (fun _ t => p - (intOf t).toNat)
      case atStart => exact ⟨_, 1, by omega, by omega, rfl, rfl, HI.out⟩
      case round =>
        obtain ⟨kk, tn, ht0, ht1, rfl, rfl, hr⟩ := hrel
        obtain ⟨k0, k1⟩ := logIn_bd (by omega) hMle hr ht1 ht0
        obtain ⟨m0, m1⟩ := mul_bd kk _ 55440 55440 k0 k1 c0 c1
        by_cases htp : tn < p
        · have htest := logIn_test a L kn p tn kk _ (by omega) HM.out ht0 htp HL.out HE.out hr
          by_cases hD : L / kn % p = tn - 1
          · have hb : (pwI 38 (kk * (55440 / ((kn : Int) * (p : Int)))) != pwI a (55440 / ((kn : Int) * (p : Int)))) = false := by simp [htest.2 hD]
            have Hk := Lib.hid (logIn_end hr hD)
            clear htest hD hr
            go_wp2_with (go_at_call 40; refine (power_any _ _ _ (by omega) (by omega) (by omega) (by omega)).mono ?_; rintro e w' ⟨rfl, rfl⟩)
            go_round
            case rel => exact ⟨j + 1, by omega, by go_num, by rw [HS.out, Int.natCast_mul], by rw [HS.out, ← Hk.out]⟩
            case measure => simp [intOf]; omega
          · have hb : (pwI 38 (kk * (55440 / ((kn : Int) * (p : Int)))) != pwI a (55440 / ((kn : Int) * (p : Int)))) = true := by simp; exact fun h => hD (htest.1 h)
            have Hn := Lib.hid (logIn_next ht0 htp hr hD)
            clear htest hD hr
            go_wp2_with (go_at_call 40; refine (power_any _ _ _ (by omega) (by omega) (by omega) (by omega)).mono ?_; rintro e w' ⟨rfl, rfl⟩)
            go_round
            case rel => exact ⟨_, tn + 1, by omega, by omega, by go_num, rfl, Hn.out⟩
            case measure => simp [intOf]; omega
        · obtain rfl : tn = p := by omega
          have hD : L / kn % tn = tn - 1 := by have := hr.2; have := Nat.mod_lt (L / kn) (show 0 < tn by omega); omega
          have Hk := Lib.hid (logIn_end hr hD)
          clear hD hr
          go_wp2_with (go_at_call 40; refine (power_any _ _ _ (by omega) (by omega) (by omega) (by omega)).mono ?_; rintro e w' ⟨rfl, rfl⟩)
          go_round
          case rel => exact ⟨j + 1, by omega, by go_num, by rw [HS.out, Int.natCast_mul], by rw [HS.out, ← Hk.out]⟩
          case measure => simp [intOf]; omega
    · obtain rfl : j = 9 := by omega
      have He := Lib.hid (show ((L % knownAt 9 : Nat) : Int) = (L : Int) by have : knownAt 9 = 55440 := rfl; rw [this, Nat.mod_eq_of_lt hLN])
      go_wp2
      go_ret
      exact ⟨ret_int He.out, rfl⟩
end Go.Proofs.YtjmkmcabpjmkgaaDoor
