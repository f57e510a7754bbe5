/- Contracts of sums, differences, products of chapter 1. -/
import Derived.Test.YtjmkmcabpjmkgaaNum
namespace Go.Proofs.Ytjmkmcabpjmkgaa
open Go.RowKit

theorem tmod_cases (k m : Int) : (0 ≤ k ∧ k.tmod m = k % m) ∨ (k < 0 ∧ k.tmod m = -(-k % m)) := by
  by_cases h : 0 ≤ k
  · exact Or.inl ⟨h, Int.tmod_eq_emod_of_nonneg h⟩
  · refine Or.inr ⟨by omega, ?_⟩
    rw [← Int.tmod_eq_emod_of_nonneg (by omega : 0 ≤ -k), Int.neg_tmod, Int.neg_neg]
theorem mod_go (k : Int) : (k.tmod 55441 + 55441) % 55441 = k % 55441 := by
  rcases tmod_cases k 55441 with ⟨h, e⟩ | ⟨h, e⟩ <;> rw [e] <;> omega
theorem tmod_bd (k : Int) : -55441 < k.tmod 55441 ∧ k.tmod 55441 < 55441 := by
  rcases tmod_cases k 55441 with ⟨h, e⟩ | ⟨h, e⟩ <;> rw [e] <;> omega
theorem l01Mod_any (k : Int) (w : World) : Calls Try.prog 45 #[.int .i64 k] w fun e w' => e = .returned (.int .i64 (k % 55441)) ∧ w = w' := by
  have H := Lib.hid (mod_go k)
  obtain ⟨b1, b2⟩ := tmod_bd k
  go_enter Try.func45, Try.ntmps45
  go_wp2
  go_ret
  exact ⟨ret_int H.out, rfl⟩
theorem implAdd_any (a b : Int) (w : World) : Calls Try.prog 25 #[.int .i64 a, .int .i64 b] w fun e w' => e = .returned (.tuple #[.int .i64 (fAdd a b), .int .i64 (c2 a b)]) ∧ w = w' := by
  cases ha : numB a
  · have H1 := Lib.hid (show (0 : Int) = fAdd a b by simp [fAdd, ha])
    have H2 := Lib.hid (show (2 : Int) = c2 a b by simp [c2, ha])
    go_enter Try.func25, Try.ntmps25
    go_wp2_with (first | (go_at_call 16; refine (isNumber_any _ _).mono ?_; rintro e w' ⟨rfl, rfl⟩) | go_in)
    go_ret2
    exact ⟨ret_pair H1.out H2.out, rfl⟩
  · have ha' := numB_t ha
    cases hb : numB b
    · have H1 := Lib.hid (show (0 : Int) = fAdd a b by simp [fAdd, hb])
      have H2 := Lib.hid (show (2 : Int) = c2 a b by simp [c2, hb])
      go_enter Try.func25, Try.ntmps25
      go_wp2_with (first | (go_at_call 16; refine (isNumber_any _ _).mono ?_; rintro e w' ⟨rfl, rfl⟩) | go_in)
      go_ret2
      exact ⟨ret_pair H1.out H2.out, rfl⟩
    · have hb' := numB_t hb
      have H1 := Lib.hid (show (a + b) % 55441 = fAdd a b by simp [fAdd, ha, hb])
      have H2 := Lib.hid (show (0 : Int) = c2 a b by simp [c2, ha, hb])
      go_enter Try.func25, Try.ntmps25
      go_wp2_with (first | (go_at_call 16; refine (isNumber_any _ _).mono ?_; rintro e w' ⟨rfl, rfl⟩) | go_in)
      go_ret2
      exact ⟨ret_pair H1.out H2.out, rfl⟩
theorem implSub_any (a b : Int) (w : World) : Calls Try.prog 26 #[.int .i64 a, .int .i64 b] w fun e w' => e = .returned (.tuple #[.int .i64 (fSub a b), .int .i64 (c2 a b)]) ∧ w = w' := by
  cases ha : numB a
  · have H1 := Lib.hid (show (0 : Int) = fSub a b by simp [fSub, ha])
    have H2 := Lib.hid (show (2 : Int) = c2 a b by simp [c2, ha])
    go_enter Try.func26, Try.ntmps26
    go_wp2_with (first | (go_at_call 16; refine (isNumber_any _ _).mono ?_; rintro e w' ⟨rfl, rfl⟩) | go_in)
    go_ret2
    exact ⟨ret_pair H1.out H2.out, rfl⟩
  · have ha' := numB_t ha
    cases hb : numB b
    · have H1 := Lib.hid (show (0 : Int) = fSub a b by simp [fSub, hb])
      have H2 := Lib.hid (show (2 : Int) = c2 a b by simp [c2, hb])
      go_enter Try.func26, Try.ntmps26
      go_wp2_with (first | (go_at_call 16; refine (isNumber_any _ _).mono ?_; rintro e w' ⟨rfl, rfl⟩) | go_in)
      go_ret2
      exact ⟨ret_pair H1.out H2.out, rfl⟩
    · have hb' := numB_t hb
      have H1 := Lib.hid (show (a - b) % 55441 = fSub a b by simp [fSub, ha, hb])
      have H2 := Lib.hid (show (0 : Int) = c2 a b by simp [c2, ha, hb])
      go_enter Try.func26, Try.ntmps26
      go_wp2_with (first | (go_at_call 16; refine (isNumber_any _ _).mono ?_; rintro e w' ⟨rfl, rfl⟩) | go_in)
      go_ret2
      exact ⟨ret_pair H1.out H2.out, rfl⟩
theorem implMul_any (a b : Int) (w : World) : Calls Try.prog 24 #[.int .i64 a, .int .i64 b] w fun e w' => e = .returned (.tuple #[.int .i64 (fMul a b), .int .i64 (c2 a b)]) ∧ w = w' := by
  cases ha : numB a
  · have H1 := Lib.hid (show (0 : Int) = fMul a b by simp [fMul, ha])
    have H2 := Lib.hid (show (2 : Int) = c2 a b by simp [c2, ha])
    go_enter Try.func24, Try.ntmps24
    go_wp2_with (first | (go_at_call 16; refine (isNumber_any _ _).mono ?_; rintro e w' ⟨rfl, rfl⟩) | go_in)
    go_ret2
    exact ⟨ret_pair H1.out H2.out, rfl⟩
  · have ha' := numB_t ha
    cases hb : numB b
    · have H1 := Lib.hid (show (0 : Int) = fMul a b by simp [fMul, hb])
      have H2 := Lib.hid (show (2 : Int) = c2 a b by simp [c2, hb])
      go_enter Try.func24, Try.ntmps24
      go_wp2_with (first | (go_at_call 16; refine (isNumber_any _ _).mono ?_; rintro e w' ⟨rfl, rfl⟩) | go_in)
      go_ret2
      exact ⟨ret_pair H1.out H2.out, rfl⟩
    · have hb' := numB_t hb
      obtain ⟨m0, m1⟩ := mul_bound a b ha'.1 ha'.2 hb'.1 hb'.2
      have H1 := Lib.hid (show a * b % 55441 = fMul a b by simp [fMul, ha, hb])
      have H2 := Lib.hid (show (0 : Int) = c2 a b by simp [c2, ha, hb])
      go_enter Try.func24, Try.ntmps24
      go_wp2_with (first | (go_at_call 16; refine (isNumber_any _ _).mono ?_; rintro e w' ⟨rfl, rfl⟩) | go_in)
      go_ret2
      exact ⟨ret_pair H1.out H2.out, rfl⟩
theorem specAdd_any (a b : Int) (w : World) : Calls Try.prog 28 #[.int .i64 a, .int .i64 b] w fun e w' => e = .returned (.tuple #[.int .i64 (fAdd a b), .int .i64 (c2 a b)]) ∧ w = w' := by
  cases ha : numB a
  · have H1 := Lib.hid (show (0 : Int) = fAdd a b by simp [fAdd, ha])
    have H2 := Lib.hid (show (2 : Int) = c2 a b by simp [c2, ha])
    go_enter Try.func28, Try.ntmps28
    go_wp2_with (first | (go_at_call 37; refine (l01Number_any _ _).mono ?_; rintro e w' ⟨rfl, rfl⟩) | (go_at_call 45; refine (l01Mod_any _ _).mono ?_; rintro e w' ⟨rfl, rfl⟩) | go_in)
    go_ret2
    exact ⟨ret_pair H1.out H2.out, rfl⟩
  · have ha' := numB_t ha
    cases hb : numB b
    · have H1 := Lib.hid (show (0 : Int) = fAdd a b by simp [fAdd, hb])
      have H2 := Lib.hid (show (2 : Int) = c2 a b by simp [c2, hb])
      go_enter Try.func28, Try.ntmps28
      go_wp2_with (first | (go_at_call 37; refine (l01Number_any _ _).mono ?_; rintro e w' ⟨rfl, rfl⟩) | (go_at_call 45; refine (l01Mod_any _ _).mono ?_; rintro e w' ⟨rfl, rfl⟩) | go_in)
      go_ret2
      exact ⟨ret_pair H1.out H2.out, rfl⟩
    · have hb' := numB_t hb
      have H1 := Lib.hid (show (a + b) % 55441 = fAdd a b by simp [fAdd, ha, hb])
      have H2 := Lib.hid (show (0 : Int) = c2 a b by simp [c2, ha, hb])
      go_enter Try.func28, Try.ntmps28
      go_wp2_with (first | (go_at_call 37; refine (l01Number_any _ _).mono ?_; rintro e w' ⟨rfl, rfl⟩) | (go_at_call 45; refine (l01Mod_any _ _).mono ?_; rintro e w' ⟨rfl, rfl⟩) | go_in)
      go_ret2
      exact ⟨ret_pair H1.out H2.out, rfl⟩
theorem specSub_any (a b : Int) (w : World) : Calls Try.prog 29 #[.int .i64 a, .int .i64 b] w fun e w' => e = .returned (.tuple #[.int .i64 (fSub a b), .int .i64 (c2 a b)]) ∧ w = w' := by
  cases ha : numB a
  · have H1 := Lib.hid (show (0 : Int) = fSub a b by simp [fSub, ha])
    have H2 := Lib.hid (show (2 : Int) = c2 a b by simp [c2, ha])
    go_enter Try.func29, Try.ntmps29
    go_wp2_with (first | (go_at_call 37; refine (l01Number_any _ _).mono ?_; rintro e w' ⟨rfl, rfl⟩) | (go_at_call 45; refine (l01Mod_any _ _).mono ?_; rintro e w' ⟨rfl, rfl⟩) | go_in)
    go_ret2
    exact ⟨ret_pair H1.out H2.out, rfl⟩
  · have ha' := numB_t ha
    cases hb : numB b
    · have H1 := Lib.hid (show (0 : Int) = fSub a b by simp [fSub, hb])
      have H2 := Lib.hid (show (2 : Int) = c2 a b by simp [c2, hb])
      go_enter Try.func29, Try.ntmps29
      go_wp2_with (first | (go_at_call 37; refine (l01Number_any _ _).mono ?_; rintro e w' ⟨rfl, rfl⟩) | (go_at_call 45; refine (l01Mod_any _ _).mono ?_; rintro e w' ⟨rfl, rfl⟩) | go_in)
      go_ret2
      exact ⟨ret_pair H1.out H2.out, rfl⟩
    · have hb' := numB_t hb
      have H1 := Lib.hid (show (a - b) % 55441 = fSub a b by simp [fSub, ha, hb])
      have H2 := Lib.hid (show (0 : Int) = c2 a b by simp [c2, ha, hb])
      go_enter Try.func29, Try.ntmps29
      go_wp2_with (first | (go_at_call 37; refine (l01Number_any _ _).mono ?_; rintro e w' ⟨rfl, rfl⟩) | (go_at_call 45; refine (l01Mod_any _ _).mono ?_; rintro e w' ⟨rfl, rfl⟩) | go_in)
      go_ret2
      exact ⟨ret_pair H1.out H2.out, rfl⟩
theorem specMul_any (a b : Int) (w : World) : Calls Try.prog 30 #[.int .i64 a, .int .i64 b] w fun e w' => e = .returned (.tuple #[.int .i64 (fMul a b), .int .i64 (c2 a b)]) ∧ w = w' := by
  cases ha : numB a
  · have H1 := Lib.hid (show (0 : Int) = fMul a b by simp [fMul, ha])
    have H2 := Lib.hid (show (2 : Int) = c2 a b by simp [c2, ha])
    go_enter Try.func30, Try.ntmps30
    go_wp2_with (first | (go_at_call 37; refine (l01Number_any _ _).mono ?_; rintro e w' ⟨rfl, rfl⟩) | (go_at_call 45; refine (l01Mod_any _ _).mono ?_; rintro e w' ⟨rfl, rfl⟩) | go_in)
    go_ret2
    exact ⟨ret_pair H1.out H2.out, rfl⟩
  · have ha' := numB_t ha
    cases hb : numB b
    · have H1 := Lib.hid (show (0 : Int) = fMul a b by simp [fMul, hb])
      have H2 := Lib.hid (show (2 : Int) = c2 a b by simp [c2, hb])
      go_enter Try.func30, Try.ntmps30
      go_wp2_with (first | (go_at_call 37; refine (l01Number_any _ _).mono ?_; rintro e w' ⟨rfl, rfl⟩) | (go_at_call 45; refine (l01Mod_any _ _).mono ?_; rintro e w' ⟨rfl, rfl⟩) | go_in)
      go_ret2
      exact ⟨ret_pair H1.out H2.out, rfl⟩
    · have hb' := numB_t hb
      obtain ⟨m0, m1⟩ := mul_bound a b ha'.1 ha'.2 hb'.1 hb'.2
      have H1 := Lib.hid (show a * b % 55441 = fMul a b by simp [fMul, ha, hb])
      have H2 := Lib.hid (show (0 : Int) = c2 a b by simp [c2, ha, hb])
      go_enter Try.func30, Try.ntmps30
      go_wp2_with (first | (go_at_call 37; refine (l01Number_any _ _).mono ?_; rintro e w' ⟨rfl, rfl⟩) | (go_at_call 45; refine (l01Mod_any _ _).mono ?_; rintro e w' ⟨rfl, rfl⟩) | go_in)
      go_ret2
      exact ⟨ret_pair H1.out H2.out, rfl⟩
end Go.Proofs.Ytjmkmcabpjmkgaa
