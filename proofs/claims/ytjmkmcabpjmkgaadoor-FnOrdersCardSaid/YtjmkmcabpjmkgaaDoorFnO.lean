/- What FnOrders asks. -/
import Derived.Test.YtjmkmcabpjmkgaaDoorNumI
import Derived.Test.YtjmkmcabpjmkgaaDoorDrw
import Derived.Test.YtjmkmcabpjmkgaaDoorNumC
namespace Go.Proofs.YtjmkmcabpjmkgaaDoor
open Go.RowKit
/-- the order -/
def ordOf (N a : Nat) : Nat := ((List.range N).find? fun d => decide (0 < d) && (a ^ d % 55441 == 1)).getD 0
theorem ordOf_spec (N a d0 : Nat) (h0 : 0 < d0) (h1 : a ^ d0 % 55441 = 1) (hN : d0 < N) (hmin : ∀ d, 0 < d → a ^ d % 55441 = 1 → d0 ≤ d) : ordOf N a = d0 := by
  unfold ordOf
  cases hf : (List.range N).find? fun d => decide (0 < d) && (a ^ d % 55441 == 1) with
  | none =>
    have := List.find?_eq_none.1 hf d0 (List.mem_range.2 hN)
    simp [h0, h1] at this
  | some x =>
    obtain ⟨hp, _, hm⟩ := List.find?_range_eq_some.1 hf
    simp at hp
    have hx := hmin x hp.1 hp.2
    show x = d0
    by_cases e : x = d0
    · exact e
    · have := hm d0 (by omega)
      simp [h0, h1] at this
def ordN (a : Nat) : Nat := ordOf 55441 a
theorem ordN_spec (a : Nat) (h : a % 55441 ≠ 0) : NT.IsOrder a (ordN a) := by
  obtain ⟨d, hd⟩ := NT.order_ex a h
  have hp := NT.order_pos hd
  have hle := NT.order_le hd
  have e : ordN a = d := ordOf_spec 55441 a d hp hd.one (by omega) (fun x hx h1 => Nat.le_of_dvd hx (NT.order_dvd hd x h1))
  rw [e]; exact hd
def fOrd (a : Int) : Int := if (numB a && !(a == 0)) = true then ((ordN a.toNat : Nat) : Int) else 0
theorem log_cases (a : Int) : (numB a = false ∧ cLog a = 2 ∧ fLog a = 0 ∧ fOrd a = 0) ∨ (a = 0 ∧ cLog a = 5 ∧ fLog a = 0 ∧ fOrd a = 0) ∨ (0 < a ∧ a < 55441 ∧ cLog a = 0 ∧ fLog a = ((lgN a.toNat : Nat) : Int) ∧ fOrd a = ((ordN a.toNat : Nat) : Int)) := by
  cases ha : numB a
  · exact Or.inl ⟨rfl, by simp [cLog, ha], by simp [fLog, ha], by simp [fOrd, ha]⟩
  · have h := numB_t ha
    by_cases hz : a = 0
    · exact Or.inr (Or.inl ⟨hz, by simp [cLog, hz, numB_zero'], by simp [fLog, hz], by simp [fOrd, hz]⟩)
    · exact Or.inr (Or.inr ⟨by omega, h.2, by simp [cLog, ha, hz], by simp [fLog, ha, hz], by simp [fOrd, ha, hz]⟩)
/-- what the last part of the law asks -/
theorem orders_end {a : Int} (h : cLog a = 0) : 0 < a ∧ a < 55441 ∧ 0 ≤ fLog a ∧ fLog a < 55440 ∧ 1 ≤ fOrd a ∧ fOrd a ≤ 55440 ∧ cPow 38 (fLog a) = 0 ∧ fPow 38 (fLog a) = a ∧ fLog a * fOrd a % 55440 = 0 ∧
    ∀ p : Nat, p = 2 ∨ p = 3 ∨ p = 5 ∨ p = 7 ∨ p = 11 → fOrd a % (p : Int) = 0 → ¬ fLog a * (fOrd a / (p : Int)) % 55440 = 0 := by
  rcases log_cases a with h' | h' | ⟨a0, a1, _, e1, e2⟩
  · omega
  · omega
  obtain ⟨hL, hLN⟩ := lgN_spec a.toNat (by omega) (by omega)
  have ho := ordN_spec a.toNat (by omega)
  have hp := NT.order_pos ho
  have hle := NT.order_le ho
  rw [e1, e2]
  generalize lgN a.toNat = L at *
  generalize ordN a.toNat = d at *
  have hpow : ∀ x, a.toNat ^ x % 55441 = 38 ^ (L * x) % 55441 := fun x => NT.pow_log a.toNat L x hL
  have h38 : numB 38 = true := by decide
  have hex : exp6 (L : Int) = true := inB_mk (by omega) (by omega)
  refine ⟨a0, a1, by omega, by omega, by omega, by omega, by simp [cPow, h38, hex], ?_, ?_, ?_⟩
  · have : fPow 38 (L : Int) = pwI 38 (L : Int) := by simp [fPow, h38, hex]; omega
    rw [this]
    unfold pwI
    have e3 : (38 : Int).toNat = 38 := rfl
    rw [e3, Int.toNat_natCast, hL]; omega
  · have h1 := ho.one
    rw [hpow] at h1
    have := NT.g_order _ h1
    rw [← Int.natCast_mul]
    omega
  · intro p hp5 hmod hbad
    have hf : NT.Fine a.toNat d p := by
      rcases hp5 with rfl | rfl | rfl | rfl | rfl
      · exact ho.f2
      · exact ho.f3
      · exact ho.f5
      · exact ho.f7
      · exact ho.f11
    apply hf
    refine ⟨by omega, ?_⟩
    rw [hpow]
    rw [← Int.natCast_ediv, ← Int.natCast_mul] at hbad
    have hd : 55440 ∣ L * (d / p) := by omega
    obtain ⟨z, hz⟩ := hd
    rw [hz]; exact NT.pow_mul_one 38 55440 55441 z NT.g_one
/-- a square root is one -/
theorem root_law {b : Int} (h0 : 0 ≤ b) (h1 : b < 55441) (hr : 0 ≤ rootF b.toNat) : rootF b.toNat * rootF b.toNat % 55441 = b ∧ rootF b.toNat ≤ 27720 := by
  have hbd := rootF_bd b.toNat
  have key : ∃ x : Nat, x ≤ 27720 ∧ x * x % 55441 = b.toNat := by
    refine Classical.byContradiction fun hn => ?_
    have := root_none b.toNat (by omega) (fun y hy e => hn ⟨y, hy, e⟩)
    omega
  obtain ⟨x, hx, e⟩ := key
  have := root_hit b.toNat x (by omega) hx e
  rw [this]
  refine ⟨?_, by omega⟩
  rw [← Int.natCast_mul]; omega
theorem sqrt_log {b : Int} (h0 : 0 < b) (h1 : b < 55441) : lgN b.toNat % 2 = 0 ↔ 0 ≤ rootF b.toNat := by
  obtain ⟨hL, _⟩ := lgN_spec b.toNat (by omega) (by omega)
  have hlt := Nat.mod_lt (38 ^ (lgN b.toNat / 2)) (show 0 < 55441 by omega)
  have hz : ¬ b.toNat = 0 := by omega
  unfold rootF
  rw [if_neg hz]
  split
  · omega
  · constructor
    · intro _
      generalize 38 ^ (lgN b.toNat / 2) % 55441 = u at *
      omega
    · intro _; omega
theorem sqrt_cases (b : Int) : (numB b = false ∧ cSqrt b = 2 ∧ fSqrt b = 0 ∧ cLog b = 2) ∨
    (0 ≤ b ∧ b < 55441 ∧ cSqrt b = 0 ∧ 0 ≤ fSqrt b ∧ fSqrt b ≤ 27720 ∧ fSqrt b * fSqrt b % 55441 = b ∧ (cLog b = 5 ∨ cLog b = 0 ∧ fLog b % 2 = 0) ∧ 0 ≤ fLog b ∧ fLog b ≤ 55440) ∨
    (0 ≤ b ∧ b < 55441 ∧ cSqrt b = 4 ∧ fSqrt b = 0 ∧ cLog b = 0 ∧ fLog b % 2 = 1 ∧ 0 ≤ fLog b ∧ fLog b ≤ 55440) := by
  cases hb : numB b
  · left; exact ⟨rfl, by simp [cSqrt, hb], by simp [fSqrt, hb], by simp [cLog, hb]⟩
  · right
    have h := numB_t hb
    by_cases hr : 0 ≤ rootF b.toNat
    · left
      obtain ⟨e1, e2⟩ := root_law h.1 h.2 hr
      have ef : fSqrt b = rootF b.toNat := by simp [fSqrt, hb, rtv]; omega
      rw [ef]
      refine ⟨h.1, h.2, by simp [cSqrt, hb, hr], hr, e2, e1, ?_, ?_⟩
      · rcases log_cases b with g | g | ⟨g0, g1, g2, g3, _⟩
        · rw [hb] at g; simp at g
        · exact Or.inl g.2.1
        · right; refine ⟨g2, ?_⟩
          have := (sqrt_log g0 g1).2 hr
          rw [g3]; omega
      · rcases log_cases b with g | g | ⟨g0, g1, g2, g3, _⟩
        · omega
        · omega
        · have := (lgN_spec b.toNat (by omega) (by omega)).2
          rw [g3]; omega
    · right
      have hz : b ≠ 0 := fun e => by subst e; exact hr (by decide)
      rcases log_cases b with g | g | ⟨g0, g1, g2, g3, _⟩
      · rw [hb] at g; simp at g
      · exact absurd g.1 hz
      · have h2 : ¬ lgN b.toNat % 2 = 0 := fun e => hr ((sqrt_log g0 g1).1 e)
        have h3 := (lgN_spec b.toNat (by omega) (by omega)).2
        refine ⟨h.1, h.2, by simp [cSqrt, hb, hr], by simp [fSqrt, hb, rtv]; omega, g2, by rw [g3]; omega, by rw [g3]; omega, by rw [g3]; omega⟩
theorem root_cases (n : Int) : (cRoot n ≠ 0) ∨ (1 ≤ n ∧ cRoot n = 0 ∧ 0 < fRoot n ∧ fRoot n < 55441 ∧ fOrd (fRoot n) = n ∧ cLog (fRoot n) = 0) := by
  by_cases h1 : 1 ≤ n
  · by_cases hd : 55440 % n = 0
    · right
      have e : fRoot n = pwI 38 (55440 / n) := by simp [fRoot, h1, hd]
      obtain ⟨m, rfl⟩ := Int.eq_ofNat_of_zero_le (show 0 ≤ n by omega)
      have hdm : m ∣ 55440 := Nat.dvd_of_mod_eq_zero (by have e5 : ((55440 % m : Nat) : Int) = 0 := by rw [Int.natCast_emod]; exact hd
                                                         omega)
      have e2 : pwI 38 (55440 / (m : Int)) = ((38 ^ (55440 / m) % 55441 : Nat) : Int) := by
        unfold pwI
        have e3 : (38 : Int).toNat = 38 := rfl
        have e4 : (55440 / (m : Int)).toNat = 55440 / m := by
          have : (55440 : Int) / (m : Int) = ((55440 / m : Nat) : Int) := by rw [Int.natCast_ediv]; rfl
          rw [this]; rfl
        rw [e3, e4]
      have hne := NT.g_ne_zero (55440 / m)
      have hlt := Nat.mod_lt (38 ^ (55440 / m)) (show 0 < 55441 by omega)
      rw [e, e2]
      have hx : ∃ x : Nat, x = 38 ^ (55440 / m) % 55441 := ⟨_, rfl⟩
      obtain ⟨x, hx⟩ := hx
      rw [← hx] at hne hlt ⊢
      have ho := ordN_spec x (by omega)
      have eo : ordN x = m := NT.order_root hdm (by rw [← hx]; exact ho)
      clear hx e2 e ho
      rcases log_cases (x : Int) with g | g | ⟨g0, g1, g2, g3, g4⟩
      · have := numB_f g.1; omega
      · omega
      · refine ⟨h1, by simp [cRoot, h1, hd], g0, g1, ?_, g2⟩
        rw [g4, Int.toNat_natCast, eo]
    · left
      have e : cRoot n = 5 := by simp [cRoot, h1, hd]
      omega
  · left
    have e : cRoot n = 2 := by simp [cRoot, h1]
    omega
theorem implOrd_any (a : Int) (w : World) (hT : UnitTab w) : Calls Tryd.prog 10 #[.int .i64 a] w fun e w' => e = .returned (.tuple #[.int .i64 (fOrd a), .int .i64 (cLog a)]) ∧ w = w' := by
  rcases log_cases a with ⟨h, e1, _, e2⟩ | ⟨h, e1, _, e2⟩ | ⟨h0, h1, e1, _, e2⟩
  · rw [e1, e2]; exact implOrd_bad a w h
  · rw [e1, e2, h]; exact implOrd_zero w
  · rw [e1, e2]; exact implOrd_ok a _ w h0 h1 (ordN_spec _ (by omega)) hT
theorem specOrd_any (a : Int) (w : World) : Calls Tryd.prog 11 #[.int .i64 a] w fun e w' => e = .returned (.tuple #[.int .i64 (fOrd a), .int .i64 (cLog a)]) ∧ Below w.heap.size w w' := by
  rcases log_cases a with ⟨h, e1, _, e2⟩ | ⟨h, e1, _, e2⟩ | ⟨h0, h1, e1, _, e2⟩
  · rw [e1, e2]; exact (specOrd_bad a w h).mono fun e w' ⟨he, hw⟩ => ⟨he, hw ▸ Below.refl _ _⟩
  · rw [e1, e2, h]; exact (specOrd_zero w).mono fun e w' ⟨he, hw⟩ => ⟨he, hw ▸ Below.refl _ _⟩
  · rw [e1, e2]; exact specOrd_ok a _ w h0 h1 (ordN_spec _ (by omega))
theorem drawLog_any (ca : Option Addr) (n cc : Nat) (xs : List Int) (w : World) (hR : RdB w ca n xs) (hbig : n ≤ 4096) : Calls Tryd.prog 7 #[.slice ca n cc] w fun e w' => OnePost AnInt w e w' := by
  go_enter Tryd.func7, Tryd.ntmps7
  go_wp2_with fail
  refine (l01From_any ca n cc xs _ hR hbig).mono ?_
  rintro e w1 ⟨rfl, hS1, hb1⟩
  have Hb1 := Lib.hid hb1
  clear hb1
  go_wp2_with fail
  refine (l01Spoil_any _ _ hS1).mono ?_
  rintro e w2 ⟨x, hx, rfl, hS2, hO2⟩
  have Hx := Lib.hid hx
  have HO2 := Lib.hid hO2
  clear hO2 hx hS1
  go_wp2_with fail
  go_ret
  exact ⟨x, Hx.out, rfl, Hb1.out.trans (HO2.out.below (Nat.le_refl _) Hb1.out.size)⟩
theorem drawRoot_any (ca : Option Addr) (n cc : Nat) (xs : List Int) (w : World) (hR : RdB w ca n xs) (hbig : n ≤ 4096) : Calls Tryd.prog 14 #[.slice ca n cc] w fun e w' => OnePost AnInt w e w' := by
  go_enter Tryd.func14, Tryd.ntmps14
  go_wp2_with fail
  refine (l01From_any ca n cc xs _ hR hbig).mono ?_
  rintro e w1 ⟨rfl, hS1, hb1⟩
  have Hb1 := Lib.hid hb1
  clear hb1
  go_wp2_with fail
  refine (l01Next_any _ _ _ hS1 (by omega)).mono ?_
  rintro e w2 ⟨x1, x10, x11, rfl, hS2, hO2⟩
  have y1 : x1 < 60 := by omega
  have HO2 := Lib.hid hO2
  clear hO2 hS1 x11
  go_wp2_with fail
  refine (l01Pick_any _ w2.heap.size 0 8 _ [1 + x1, 55440, 5040, 720, 0, -2, 13, 55441] _ (hS2.alloc _) rfl (by omega) (by omega) (Nat.ne_of_gt hS2.lt) (by simp) (fun i hi => lit_cell w2 _ _ _ rfl i hi)).mono ?_
  rintro e w3 ⟨p, hp, rfl, hS3, hO3⟩
  have Hp := Lib.hid (show AnInt p by unfold AnInt; simp at hp; omega)
  have HO3 := Lib.hid (((Only.refl w.heap.size w2).alloc _).trans hO3)
  clear hO3 hp hS2
  go_wp2_with fail
  go_ret
  exact ⟨p, Hp.out, rfl, Hb1.out.trans ((HO2.out.trans HO3.out).below (Nat.le_refl _) Hb1.out.size)⟩
theorem drawSqrt_any (ca : Option Addr) (n cc : Nat) (xs : List Int) (w : World) (hR : RdB w ca n xs) (hbig : n ≤ 4096) : Calls Tryd.prog 17 #[.slice ca n cc] w fun e w' => OnePost AnInt w e w' := by
  go_enter Tryd.func17, Tryd.ntmps17
  go_wp2_with fail
  refine (l01From_any ca n cc xs _ hR hbig).mono ?_
  rintro e w1 ⟨rfl, hS1, hb1⟩
  have Hb1 := Lib.hid hb1
  clear hb1
  go_wp2_with fail
  refine (l01Spoil_any _ _ hS1).mono ?_
  rintro e w2 ⟨x, hx, rfl, hS2, hO2⟩
  have Hx := Lib.hid hx
  have HO2 := Lib.hid hO2
  clear hO2 hx hS1
  cases hnx : numB x
  · go_wp2_with (go_at_call 34; refine (l01Number_any _ _).mono ?_; rintro e w' ⟨rfl, rfl⟩)
    go_ret
    exact ⟨x, Hx.out, rfl, Hb1.out.trans (HO2.out.below (Nat.le_refl _) Hb1.out.size)⟩
  · obtain ⟨g0, g1⟩ := numB_t hnx
    obtain ⟨m0, m1⟩ := mul_bound x x g0 g1 g0 g1
    go_wp2_with (go_at_call 34; refine (l01Number_any _ _).mono ?_; rintro e w' ⟨rfl, rfl⟩)
    refine (l01Next_any _ _ _ hS2 (by omega)).mono ?_
    rintro e w3 ⟨y, y0, y1, rfl, hS3, hO3⟩
    have HO3 := Lib.hid hO3
    clear hO3 hS2 y1
    by_cases hy : y = 0
    · have hy' : (y == 0) = true := by simp [hy]
      clear hy
      go_wp2_with fail
      go_ret
      exact ⟨x * x % 55441, by unfold AnInt; omega, rfl, Hb1.out.trans ((HO2.out.trans HO3.out).below (Nat.le_refl _) Hb1.out.size)⟩
    · have hy' : (y == 0) = false := by simp [hy]
      clear hy
      go_wp2_with fail
      go_ret
      exact ⟨x, Hx.out, rfl, Hb1.out.trans ((HO2.out.trans HO3.out).below (Nat.le_refl _) Hb1.out.size)⟩
end Go.Proofs.YtjmkmcabpjmkgaaDoor
