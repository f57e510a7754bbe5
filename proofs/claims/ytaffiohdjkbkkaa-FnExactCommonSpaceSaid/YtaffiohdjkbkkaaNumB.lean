/- Contracts of powers, quotients and fractions of chapter 1. -/
import Derived.Test.YtaffiohdjkbkkaaNumA
namespace Go.Proofs.Ytaffiohdjkbkkaa
open Go.RowKit

theorem pwI_toNat (a k : Int) : (pwI a k).toNat = a.toNat ^ k.toNat % 55441 := by unfold pwI; omega
theorem neg_exp (K : Int) (h : K < 0) : 0 ≤ K.tmod 55440 + 55440 ∧ K.tmod 55440 + 55440 ≤ 55440 ∧ (K.tmod 55440 + 55440) % 55440 = K % 55440 := by
  rcases tmod_cases K 55440 with ⟨h', e⟩ | ⟨h', e⟩ <;> rw [e] <;> omega
/-- a power with a negative exponent, as the quotient -/
theorem neg_pow (a K : Int) (h0 : 0 < a) (h1 : a < 55441) (h : K < 0) : pwI (pwI a 55439) (-K) = pwI a (K.tmod 55440 + 55440) := by
  have hn := neg_exp K h
  generalize K.tmod 55440 + 55440 = x at *
  have hx : x.toNat % 55440 = (55439 * (-K).toNat) % 55440 := by
    obtain ⟨m, rfl⟩ : ∃ m : Nat, K = -(m : Int) := ⟨(-K).toNat, by omega⟩
    omega
  have ha : a.toNat % 55441 ≠ 0 := by omega
  have key : (pwI a 55439).toNat ^ (-K).toNat % 55441 = a.toNat ^ x.toNat % 55441 := by
    rw [pwI_toNat, ← Nat.pow_mod]
    have e9 : (55439 : Int).toNat = 55439 := rfl
    rw [e9]
    generalize (-K).toNat = m at *
    generalize hN : (55439 : Nat) = N at *
    rw [← Nat.pow_mul, NT.pow_red a.toNat (N * m) ha, NT.pow_red a.toNat x.toNat ha, hx]
  show ((_ : Nat) : Int) = ((_ : Nat) : Int)
  rw [key]
theorem power_neg (a K : Int) (w : World) (h0 : 0 ≤ a) (h1 : a < 55441) (hneg : K < 0) : Calls Try.prog 186 #[.int .i64 a, .int .i64 K] w fun e w' => e = .returned (.int .i64 (pwI a (K.tmod 55440 + 55440))) ∧ w = w' := by
  obtain ⟨n0, n1, _⟩ := neg_exp K hneg
  go_enter Try.func186, Try.ntmps186
  go_wp2
  go_loop [1, 5, 6] (fun k r s => ∃ ri ki si : Int, 0 ≤ ri ∧ ri < 55441 ∧ 0 ≤ si ∧ si < 55441 ∧ 0 ≤ ki ∧ ki ≤ 9000000000 ∧ r = .int .i64 ri ∧ k = .int .i64 ki ∧ s = .int .i64 si ∧ PowRel a (K.tmod 55440 + 55440) ri ki si) (fun k _ _ => (intOf k).toNat)
  case atStart => exact ⟨1, _, a, by omega, by omega, h0, h1, by omega, by omega, rfl, rfl, rfl, powRel_start a _⟩
  case round =>
    obtain ⟨r, k, s, r0, r1, s0, s1, k0, k1, rfl, rfl, rfl, hp⟩ := hrel
    obtain ⟨b1l, b1u⟩ := mul_bound r s r0 r1 s0 s1
    obtain ⟨b2l, b2u⟩ := mul_bound s s s0 s1 s0 s1
    by_cases hk : 0 < k
    · by_cases ho : k % 2 = 1
      · have ho' : (k % 2 == 1) = true := by simp [ho]
        have Hp := Lib.hid (powRel_odd a _ r k s r0 s0 hk ho hp)
        clear ho hp
        go_wp2
        go_round
        case rel => exact ⟨r * s % 55441, k / 2, s * s % 55441, by omega, by omega, by omega, by omega, by omega, by omega, rfl, rfl, rfl, Hp.out⟩
        case measure => simp [intOf]; omega
      · have ho' : (k % 2 == 1) = false := by simp [ho]
        have Hp := Lib.hid (powRel_even a _ r k s s0 hk ho hp)
        clear ho hp
        go_wp2
        go_round
        case rel => exact ⟨r, k / 2, s * s % 55441, by omega, by omega, by omega, by omega, by omega, by omega, rfl, rfl, rfl, Hp.out⟩
        case measure => simp [intOf]; omega
    · have hz : k = 0 := by omega
      have Hr := Lib.hid (powRel_end a _ r k s r0 r1 hz hp)
      clear hz hp
      go_wp2
      go_ret
      exact ⟨ret_int Hr.out, rfl⟩
theorem l01Pow_any (a K : Int) (w : World) (h0 : 0 ≤ a) (h1 : a < 55441) (h2 : 0 ≤ K) (h3 : K ≤ 9000000000) : Calls Try.prog 183 #[.int .i64 a, .int .i64 K] w fun e w' => e = .returned (.int .i64 (pwI a K)) ∧ w = w' := by
  go_enter Try.func183, Try.ntmps183
  go_wp2
  go_loop [0, 1, 5] (fun s k r => ∃ ri ki si : Int, 0 ≤ ri ∧ ri < 55441 ∧ 0 ≤ si ∧ si < 55441 ∧ 0 ≤ ki ∧ ki ≤ 9000000000 ∧ r = .int .i64 ri ∧ k = .int .i64 ki ∧ s = .int .i64 si ∧ PowRel a K ri ki si) (fun _ k _ => (intOf k).toNat)
  case atStart => exact ⟨1, _, a, by omega, by omega, h0, h1, by omega, by omega, rfl, rfl, rfl, powRel_start a _⟩
  case round =>
    obtain ⟨r, k, s, r0, r1, s0, s1, k0, k1, rfl, rfl, rfl, hp⟩ := hrel
    obtain ⟨b1l, b1u⟩ := mul_bound r s r0 r1 s0 s1
    obtain ⟨b2l, b2u⟩ := mul_bound s s s0 s1 s0 s1
    by_cases hk : 0 < k
    · by_cases ho : k % 2 = 1
      · have ho' : (k % 2 == 1) = true := by simp [ho]
        have Hp := Lib.hid (powRel_odd a _ r k s r0 s0 hk ho hp)
        clear ho hp
        go_wp2
        go_round
        case rel => exact ⟨r * s % 55441, k / 2, s * s % 55441, by omega, by omega, by omega, by omega, by omega, by omega, rfl, rfl, rfl, Hp.out⟩
        case measure => simp [intOf]; omega
      · have ho' : (k % 2 == 1) = false := by simp [ho]
        have Hp := Lib.hid (powRel_even a _ r k s s0 hk ho hp)
        clear ho hp
        go_wp2
        go_round
        case rel => exact ⟨r, k / 2, s * s % 55441, by omega, by omega, by omega, by omega, by omega, by omega, rfl, rfl, rfl, Hp.out⟩
        case measure => simp [intOf]; omega
    · have hz : k = 0 := by omega
      have Hr := Lib.hid (powRel_end a _ r k s r0 r1 hz hp)
      clear hz hp
      go_wp2
      go_ret
      exact ⟨ret_int Hr.out, rfl⟩
theorem l01Inv_any (a : Int) (w : World) (h0 : 0 ≤ a) (h1 : a < 55441) : Calls Try.prog 137 #[.int .i64 a] w fun e w' => e = .returned (.int .i64 (pwI a 55439)) ∧ w = w' := by
  go_enter Try.func137, Try.ntmps137
  go_wp2_with (go_at_call 183; refine (l01Pow_any _ _ _ (by omega) (by omega) (by omega) (by omega)).mono ?_; rintro e w' ⟨rfl, rfl⟩)
  go_ret
  exact ⟨rfl, rfl⟩
theorem over_any (a b : Int) (w : World) (h0 : 0 ≤ a) (h1 : a < 55441) (h2 : 0 ≤ b) (h3 : b < 55441) : Calls Try.prog 146 #[.int .i64 a, .int .i64 b] w fun e w' => e = .returned (.int .i64 (a * pwI b 55439 % 55441)) ∧ w = w' := by
  obtain ⟨p0, p1⟩ := pwI_bd b 55439
  obtain ⟨b1l, b1u⟩ := mul_bound a _ h0 h1 p0 p1
  go_enter Try.func146, Try.ntmps146
  go_wp2_with (first | (go_at_call 186; refine (power_neg _ _ _ (by omega) (by omega) (by omega)).mono ?_; rintro e w' ⟨rfl, rfl⟩) | go_in)
  go_ret
  exact ⟨rfl, rfl⟩
end Go.Proofs.Ytaffiohdjkbkkaa
