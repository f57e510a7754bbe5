/- Contracts of the functions of quotients, fractions and powers of chapter 1. -/
import Derived.Test.YtjmkmcabpjmkgaaDoorNumB
namespace Go.Proofs.YtjmkmcabpjmkgaaDoor
open Go.RowKit

theorem numB_zero : numB 0 = true := by decide
def big9 (p : Int) : Bool := inB (-1000000000) 1000000000 p
def fFrac (p q : Int) : Int := if (big9 p && big9 q && !(q % 55441 == 0)) = true then p % 55441 * pwI (q % 55441) 55439 % 55441 else 0
def cFrac (p q : Int) : Int := if (big9 p && big9 q) = true then (if q % 55441 = 0 then 5 else 0) else 2
def exp6 (k : Int) : Bool := inB (-1000000) 1000000 k
def fPow (a k : Int) : Int := if (numB a && exp6 k) = true then (if k < 0 then (if a = 0 then 0 else pwI a (k.tmod 55440 + 55440)) else pwI a k) else 0
def cPow (a k : Int) : Int := if (numB a && exp6 k) = true then (if a = 0 ∧ k < 0 then 5 else 0) else 2
theorem implDiv_any (a b : Int) (w : World) : Calls Tryd.prog 67 #[.int .i64 a, .int .i64 b] w fun e w' => e = .returned (.tuple #[.int .i64 (fDiv a b), .int .i64 (cDiv a b)]) ∧ w = w' := by
  cases ha : numB a
  · have H1 := Lib.hid (show (0 : Int) = fDiv a b by simp [fDiv, ha])
    have H2 := Lib.hid (show (2 : Int) = cDiv a b by simp [cDiv, ha])
    go_enter Tryd.func67, Tryd.ntmps67
    go_wp2_with (first | (go_at_call 32; refine (isNumber_any _ _).mono ?_; rintro e w' ⟨rfl, rfl⟩) | (go_at_call 77; refine (over_any _ _ _ (by omega) (by omega) (by omega) (by omega)).mono ?_; rintro e w' ⟨rfl, rfl⟩) | go_in)
    go_ret2
    exact ⟨ret_pair H1.out H2.out, rfl⟩
  · have ha' := numB_t ha
    cases hb : numB b
    · have H1 := Lib.hid (show (0 : Int) = fDiv a b by simp [fDiv, hb])
      have H2 := Lib.hid (show (2 : Int) = cDiv a b by simp [cDiv, hb])
      have hb0 : (b == 0) = false := by have := numB_f hb; simp; omega
      go_enter Tryd.func67, Tryd.ntmps67
      go_wp2_with (first | (go_at_call 32; refine (isNumber_any _ _).mono ?_; rintro e w' ⟨rfl, rfl⟩) | (go_at_call 77; refine (over_any _ _ _ (by omega) (by omega) (by omega) (by omega)).mono ?_; rintro e w' ⟨rfl, rfl⟩) | go_in)
      go_ret2
      exact ⟨ret_pair H1.out H2.out, rfl⟩
    · have hb' := numB_t hb
      by_cases hz : b = 0
      · have H1 := Lib.hid (show (0 : Int) = fDiv a b by simp [fDiv, hz])
        have H2 := Lib.hid (show (5 : Int) = cDiv a b by subst hz; simp [cDiv, ha, numB_zero])
        have hb0 : (b == 0) = true := by simp [hz]
        clear hz
        go_enter Tryd.func67, Tryd.ntmps67
        go_wp2_with (first | (go_at_call 32; refine (isNumber_any _ _).mono ?_; rintro e w' ⟨rfl, rfl⟩) | (go_at_call 77; refine (over_any _ _ _ (by omega) (by omega) (by omega) (by omega)).mono ?_; rintro e w' ⟨rfl, rfl⟩) | go_in)
        go_ret2
        exact ⟨ret_pair H1.out H2.out, rfl⟩
      · have H1 := Lib.hid (show (a * pwI b 55439 % 55441 : Int) = fDiv a b by simp [fDiv, ha, hb, hz])
        have H2 := Lib.hid (show (0 : Int) = cDiv a b by simp [cDiv, ha, hb, hz])
        have hb0 : (b == 0) = false := by simp [hz]
        clear hz
        obtain ⟨p0, p1⟩ := pwI_bd b 55439
        obtain ⟨b1l, b1u⟩ := mul_bound a _ ha'.1 ha'.2 p0 p1
        go_enter Tryd.func67, Tryd.ntmps67
        go_wp2_with (first | (go_at_call 32; refine (isNumber_any _ _).mono ?_; rintro e w' ⟨rfl, rfl⟩) | (go_at_call 77; refine (over_any _ _ _ (by omega) (by omega) (by omega) (by omega)).mono ?_; rintro e w' ⟨rfl, rfl⟩) | go_in)
        go_ret2
        exact ⟨ret_pair H1.out H2.out, rfl⟩
theorem remainder_any (k : Int) (w : World) : Calls Tryd.prog 68 #[.int .i64 k] w fun e w' => e = .returned (.int .i64 (k % 55441)) ∧ w = w' := by
  have H := Lib.hid (mod_go k)
  obtain ⟨b1, b2⟩ := tmod_bd k
  go_enter Tryd.func68, Tryd.ntmps68
  go_wp2
  go_ret
  exact ⟨ret_int H.out, rfl⟩
theorem mod_num (k : Int) : numB (k % 55441) = true := numB_mk (by omega) (by omega)
theorem frac_ok {p q : Int} (hp : big9 p = true) (hq : big9 q = true) : fDiv (p % 55441) (q % 55441) = fFrac p q ∧ cDiv (p % 55441) (q % 55441) = cFrac p q := by
  simp [fDiv, cDiv, fFrac, cFrac, mod_num, hp, hq]
theorem implFrac_any (p q : Int) (w : World) : Calls Tryd.prog 52 #[.int .i64 p, .int .i64 q] w fun e w' => e = .returned (.tuple #[.int .i64 (fFrac p q), .int .i64 (cFrac p q)]) ∧ w = w' := by
  cases hp : big9 p
  · have H1 := Lib.hid (show (0 : Int) = fFrac p q by simp [fFrac, hp])
    have H2 := Lib.hid (show (2 : Int) = cFrac p q by simp [cFrac, hp])
    have HP : inB (-1000000000) 1000000000 p = false := hp
    clear hp
    go_enter Tryd.func52, Tryd.ntmps52
    go_wp2_with (first | (go_at_call 45; refine (within_any _ _ _ (by omega) (by omega)).mono ?_; rintro e w' ⟨rfl, rfl⟩) | (go_at_call 68; refine (remainder_any _ _).mono ?_; rintro e w' ⟨rfl, rfl⟩) | (go_at_call 67; refine (implDiv_any _ _ _).mono ?_; rintro e w' ⟨rfl, rfl⟩) | go_in)
    go_ret2
    exact ⟨ret_pair H1.out H2.out, rfl⟩
  · cases hq : big9 q
    · have H1 := Lib.hid (show (0 : Int) = fFrac p q by simp [fFrac, hq])
      have H2 := Lib.hid (show (2 : Int) = cFrac p q by simp [cFrac, hq])
      have HP : inB (-1000000000) 1000000000 p = true := hp
      have HQ : inB (-1000000000) 1000000000 q = false := hq
      clear hp hq
      go_enter Tryd.func52, Tryd.ntmps52
      go_wp2_with (first | (go_at_call 45; refine (within_any _ _ _ (by omega) (by omega)).mono ?_; rintro e w' ⟨rfl, rfl⟩) | (go_at_call 68; refine (remainder_any _ _).mono ?_; rintro e w' ⟨rfl, rfl⟩) | (go_at_call 67; refine (implDiv_any _ _ _).mono ?_; rintro e w' ⟨rfl, rfl⟩) | go_in)
      go_ret2
      exact ⟨ret_pair H1.out H2.out, rfl⟩
    · have H1 := Lib.hid (show (fDiv (p % 55441) (q % 55441) : Int) = fFrac p q by exact (frac_ok hp hq).1)
      have H2 := Lib.hid (show (cDiv (p % 55441) (q % 55441) : Int) = cFrac p q by exact (frac_ok hp hq).2)
      have HP : inB (-1000000000) 1000000000 p = true := hp
      have HQ : inB (-1000000000) 1000000000 q = true := hq
      clear hp hq
      go_enter Tryd.func52, Tryd.ntmps52
      go_wp2_with (first | (go_at_call 45; refine (within_any _ _ _ (by omega) (by omega)).mono ?_; rintro e w' ⟨rfl, rfl⟩) | (go_at_call 68; refine (remainder_any _ _).mono ?_; rintro e w' ⟨rfl, rfl⟩) | (go_at_call 67; refine (implDiv_any _ _ _).mono ?_; rintro e w' ⟨rfl, rfl⟩) | go_in)
      go_ret2
      exact ⟨ret_pair H1.out H2.out, rfl⟩
theorem implPow_any (a k : Int) (w : World) : Calls Tryd.prog 21 #[.int .i64 a, .int .i64 k] w fun e w' => e = .returned (.tuple #[.int .i64 (fPow a k), .int .i64 (cPow a k)]) ∧ w = w' := by
  cases ha : numB a
  · have H1 := Lib.hid (show (0 : Int) = fPow a k by simp [fPow, ha])
    have H2 := Lib.hid (show (2 : Int) = cPow a k by simp [cPow, ha])
    go_enter Tryd.func21, Tryd.ntmps21
    go_wp2_with (first | (go_at_call 32; refine (isNumber_any _ _).mono ?_; rintro e w' ⟨rfl, rfl⟩) | (go_at_call 45; refine (within_any _ _ _ (by omega) (by omega)).mono ?_; rintro e w' ⟨rfl, rfl⟩) | (go_at_call 40; refine (power_any _ _ _ (by omega) (by omega) (by omega) (by omega)).mono ?_; rintro e w' ⟨rfl, rfl⟩) | go_in)
    go_ret2
    exact ⟨ret_pair H1.out H2.out, rfl⟩
  · have ha' := numB_t ha
    cases hk : exp6 k
    · have H1 := Lib.hid (show (0 : Int) = fPow a k by simp [fPow, hk])
      have H2 := Lib.hid (show (2 : Int) = cPow a k by simp [cPow, hk])
      have HK : inB (-1000000) 1000000 k = false := hk
      clear hk
      go_enter Tryd.func21, Tryd.ntmps21
      go_wp2_with (first | (go_at_call 32; refine (isNumber_any _ _).mono ?_; rintro e w' ⟨rfl, rfl⟩) | (go_at_call 45; refine (within_any _ _ _ (by omega) (by omega)).mono ?_; rintro e w' ⟨rfl, rfl⟩) | (go_at_call 40; refine (power_any _ _ _ (by omega) (by omega) (by omega) (by omega)).mono ?_; rintro e w' ⟨rfl, rfl⟩) | go_in)
      go_ret2
      exact ⟨ret_pair H1.out H2.out, rfl⟩
    · by_cases hn : k < 0
      · by_cases hz : a = 0
        · have H1 := Lib.hid (show (0 : Int) = fPow a k by simp [fPow, hz, hn])
          have H2 := Lib.hid (show (5 : Int) = cPow a k by subst hz; simp [cPow, hk, hn, numB_zero])
          have hk' := inB_t (show inB (-1000000) 1000000 k = true from hk)
          have HK : inB (-1000000) 1000000 k = true := hk
          clear hk
          have hz' : (a == 0) = true := by simp [hz]
          clear hz
          go_enter Tryd.func21, Tryd.ntmps21
          go_wp2_with (first | (go_at_call 32; refine (isNumber_any _ _).mono ?_; rintro e w' ⟨rfl, rfl⟩) | (go_at_call 45; refine (within_any _ _ _ (by omega) (by omega)).mono ?_; rintro e w' ⟨rfl, rfl⟩) | (go_at_call 40; refine (power_any _ _ _ (by omega) (by omega) (by omega) (by omega)).mono ?_; rintro e w' ⟨rfl, rfl⟩) | go_in)
          go_ret2
          exact ⟨ret_pair H1.out H2.out, rfl⟩
        · have H1 := Lib.hid (show (pwI a (k.tmod 55440 + 55440) : Int) = fPow a k by simp [fPow, ha, hk, hn, hz])
          have H2 := Lib.hid (show (0 : Int) = cPow a k by simp [cPow, ha, hk, hz])
          have hk' := inB_t (show inB (-1000000) 1000000 k = true from hk)
          have HK : inB (-1000000) 1000000 k = true := hk
          clear hk
          have hz' : (a == 0) = false := by simp [hz]
          clear hz
          go_enter Tryd.func21, Tryd.ntmps21
          go_wp2_with (first | (go_at_call 32; refine (isNumber_any _ _).mono ?_; rintro e w' ⟨rfl, rfl⟩) | (go_at_call 45; refine (within_any _ _ _ (by omega) (by omega)).mono ?_; rintro e w' ⟨rfl, rfl⟩) | (go_at_call 40; refine (power_neg _ _ _ (by omega) (by omega) (by omega)).mono ?_; rintro e w' ⟨rfl, rfl⟩) | go_in)
          go_ret2
          exact ⟨ret_pair H1.out H2.out, rfl⟩
      · have hn' : 0 ≤ k := by omega
        by_cases hz : a = 0
        · have H1 := Lib.hid (show (pwI a k : Int) = fPow a k by simp [fPow, ha, hk, hn])
          have H2 := Lib.hid (show (0 : Int) = cPow a k by simp [cPow, ha, hk, hn])
          have hk' := inB_t (show inB (-1000000) 1000000 k = true from hk)
          have HK : inB (-1000000) 1000000 k = true := hk
          clear hk
          have hz' : (a == 0) = true := by simp [hz]
          clear hz hn
          go_enter Tryd.func21, Tryd.ntmps21
          go_wp2_with (first | (go_at_call 32; refine (isNumber_any _ _).mono ?_; rintro e w' ⟨rfl, rfl⟩) | (go_at_call 45; refine (within_any _ _ _ (by omega) (by omega)).mono ?_; rintro e w' ⟨rfl, rfl⟩) | (go_at_call 40; refine (power_any _ _ _ (by omega) (by omega) (by omega) (by omega)).mono ?_; rintro e w' ⟨rfl, rfl⟩) | go_in)
          go_ret2
          exact ⟨ret_pair H1.out H2.out, rfl⟩
        · have H1 := Lib.hid (show (pwI a k : Int) = fPow a k by simp [fPow, ha, hk, hn])
          have H2 := Lib.hid (show (0 : Int) = cPow a k by simp [cPow, ha, hk, hn])
          have hk' := inB_t (show inB (-1000000) 1000000 k = true from hk)
          have HK : inB (-1000000) 1000000 k = true := hk
          clear hk
          have hz' : (a == 0) = false := by simp [hz]
          clear hz hn
          go_enter Tryd.func21, Tryd.ntmps21
          go_wp2_with (first | (go_at_call 32; refine (isNumber_any _ _).mono ?_; rintro e w' ⟨rfl, rfl⟩) | (go_at_call 45; refine (within_any _ _ _ (by omega) (by omega)).mono ?_; rintro e w' ⟨rfl, rfl⟩) | (go_at_call 40; refine (power_any _ _ _ (by omega) (by omega) (by omega) (by omega)).mono ?_; rintro e w' ⟨rfl, rfl⟩) | go_in)
          go_ret2
          exact ⟨ret_pair H1.out H2.out, rfl⟩
end Go.Proofs.YtjmkmcabpjmkgaaDoor
