/- The functions of logarithms and square roots of chapter 1. -/
import Derived.Test.YtjmkmcabpjmkgaaDoorNumG
import Derived.WalkLawsBesides
namespace Go.Proofs.YtjmkmcabpjmkgaaDoor
open Go.RowKit
def fLog (a : Int) : Int := if (numB a && !(a == 0)) = true then ((lgN a.toNat : Nat) : Int) else 0
def cLog (a : Int) : Int := if numB a = true then (if a = 0 then 5 else 0) else 2
theorem numB_zero' : numB 0 = true := by decide
/-- the least square root, or -1 -/
def rootF (a : Nat) : Int := if a = 0 then 0 else if lgN a % 2 = 1 then -1 else min ((38 ^ (lgN a / 2) % 55441 : Nat) : Int) (55441 - (38 ^ (lgN a / 2) % 55441 : Nat))
theorem root_hit (a x : Nat) (ha : a < 55441) (hx : x ≤ 27720) (h : x * x % 55441 = a) : rootF a = (x : Int) := by
  unfold rootF
  by_cases h0 : a = 0
  · rw [if_pos h0]
    subst h0
    rcases NT.mul_zero' x x h with e | e <;> omega
  · rw [if_neg h0]
    obtain ⟨hl, _⟩ := lgN_spec a (by omega) ha
    generalize lgN a = L at *
    by_cases ho : L % 2 = 1
    · exact absurd (h.trans hl.symm) (NT.sq_odd L x ho)
    · rw [if_neg ho]
      have hr := NT.sq_log L (by omega)
      have hlt := Nat.mod_lt (38 ^ (L / 2)) (show 0 < 55441 by omega)
      rw [hl, ← h] at hr
      generalize 38 ^ (L / 2) % 55441 = r at *
      have := NT.sq_eq x r (by omega) hlt hr.symm
      omega
theorem root_none (a : Nat) (ha : a < 55441) (h : ∀ y, y ≤ 27720 → y * y % 55441 ≠ a) : rootF a = -1 := by
  unfold rootF
  by_cases h0 : a = 0
  · exact absurd h0.symm (h 0 (by omega))
  · rw [if_neg h0]
    obtain ⟨hl, _⟩ := lgN_spec a (by omega) ha
    generalize lgN a = L at *
    by_cases ho : L % 2 = 1
    · rw [if_pos ho]
    · exfalso
      have hr := NT.sq_log L (by omega)
      have hlt := Nat.mod_lt (38 ^ (L / 2)) (show 0 < 55441 by omega)
      rw [hl] at hr
      generalize 38 ^ (L / 2) % 55441 = r at *
      by_cases hs : r ≤ 27720
      · exact h r hs hr
      · apply h (55441 - r) (by omega)
        rw [← hr]
        obtain ⟨s, hs'⟩ : ∃ s, r + s = 55441 := ⟨55441 - r, by omega⟩
        have es : 55441 - r = s := by omega
        rw [es]
        have e1 : s * s + s * r = 55441 * s := by rw [← Nat.mul_add, Nat.add_comm s r, hs', Nat.mul_comm]
        have e2 : r * r + s * r = 55441 * r := by rw [← Nat.add_mul, hs']
        omega
/-- the value and the flag of a root -/
def rtv (a : Int) : Int := if rootF a.toNat < 0 then 0 else rootF a.toNat
def rtb (a : Int) : Bool := decide (0 ≤ rootF a.toNat)
theorem rootF_bd (a : Nat) : rootF a = -1 ∨ (0 ≤ rootF a ∧ rootF a ≤ 27720) := by
  unfold rootF
  repeat' split
  all_goals omega
def fSqrt (a : Int) : Int := if numB a = true then rtv a else 0
def cSqrt (a : Int) : Int := if numB a = true then (if 0 ≤ rootF a.toNat then 0 else 4) else 2
theorem implLog_any (a : Int) (w : World) (hT : UnitTab w) : Calls Tryd.prog 8 #[.int .i64 a] w fun e w' => e = .returned (.tuple #[.int .i64 (fLog a), .int .i64 (cLog a)]) ∧ w = w' := by
  have HT := Lib.hid hT
  clear hT
  cases ha : numB a
  · have H1 := Lib.hid (show (0 : Int) = fLog a by simp [fLog, ha])
    have H2 := Lib.hid (show (2 : Int) = cLog a by simp [cLog, ha])
    go_enter Tryd.func8, Tryd.ntmps8
    go_wp2_with (first | (go_at_call 32; refine (isNumber_any _ _).mono ?_; rintro e w' ⟨rfl, rfl⟩) | (go_at_call 33; refine (log_any _ _ (by omega) (by omega) HT.out).mono ?_; rintro e w' ⟨rfl, rfl⟩) | go_in)
    go_ret2
    exact ⟨ret_pair H1.out H2.out, rfl⟩
  · have ha' := numB_t ha
    by_cases hz : a = 0
    · have H1 := Lib.hid (show (0 : Int) = fLog a by simp [fLog, hz])
      have H2 := Lib.hid (show (5 : Int) = cLog a by simp [cLog, hz, numB_zero'])
      have hz' : (a == 0) = true := by simp [hz]
      clear hz
      go_enter Tryd.func8, Tryd.ntmps8
      go_wp2_with (first | (go_at_call 32; refine (isNumber_any _ _).mono ?_; rintro e w' ⟨rfl, rfl⟩) | (go_at_call 33; refine (log_any _ _ (by omega) (by omega) HT.out).mono ?_; rintro e w' ⟨rfl, rfl⟩) | go_in)
      go_ret2
      exact ⟨ret_pair H1.out H2.out, rfl⟩
    · have H1 := Lib.hid (show ((lgN a.toNat : Nat) : Int) = fLog a by simp [fLog, ha, hz])
      have H2 := Lib.hid (show (0 : Int) = cLog a by simp [cLog, ha, hz])
      have hz' : (a == 0) = false := by simp [hz]
      have hp : 0 < a := by omega
      clear hz
      go_enter Tryd.func8, Tryd.ntmps8
      go_wp2_with (first | (go_at_call 32; refine (isNumber_any _ _).mono ?_; rintro e w' ⟨rfl, rfl⟩) | (go_at_call 33; refine (log_any _ _ (by omega) (by omega) HT.out).mono ?_; rintro e w' ⟨rfl, rfl⟩) | go_in)
      go_ret2
      exact ⟨ret_pair H1.out H2.out, rfl⟩
theorem specLog_any (a : Int) (w : World) : Calls Tryd.prog 9 #[.int .i64 a] w fun e w' => e = .returned (.tuple #[.int .i64 (fLog a), .int .i64 (cLog a)]) ∧ Below w.heap.size w w' := by
  cases ha : numB a
  · have H1 := Lib.hid (show (0 : Int) = fLog a by simp [fLog, ha])
    have H2 := Lib.hid (show (2 : Int) = cLog a by simp [cLog, ha])
    go_enter Tryd.func9, Tryd.ntmps9
    go_wp2_with (first | (go_at_call 34; refine (l01Number_any _ _).mono ?_; rintro e w' ⟨rfl, rfl⟩) | (go_at_call 35; refine (l01Primitive_any _).mono ?_; rintro e w' ⟨rfl, hbP⟩) | go_in)
    go_ret2
    exact ⟨ret_pair H1.out H2.out, Below.refl _ _⟩
  · have ha' := numB_t ha
    by_cases hz : a = 0
    · have H1 := Lib.hid (show (0 : Int) = fLog a by simp [fLog, hz])
      have H2 := Lib.hid (show (5 : Int) = cLog a by simp [cLog, hz, numB_zero'])
      have hz' : (a == 0) = true := by simp [hz]
      clear hz
      go_enter Tryd.func9, Tryd.ntmps9
      go_wp2_with (first | (go_at_call 34; refine (l01Number_any _ _).mono ?_; rintro e w' ⟨rfl, rfl⟩) | (go_at_call 35; refine (l01Primitive_any _).mono ?_; rintro e w' ⟨rfl, hbP⟩) | go_in)
      go_ret2
      exact ⟨ret_pair H1.out H2.out, Below.refl _ _⟩
    · have H1 := Lib.hid (show ((lgN a.toNat : Nat) : Int) = fLog a by simp [fLog, ha, hz])
      have H2 := Lib.hid (show (0 : Int) = cLog a by simp [cLog, ha, hz])
      have hz' : (a == 0) = false := by simp [hz]
      obtain ⟨hL, hLN⟩ := lgN_spec a.toNat (by omega) (by omega)
      generalize lgN a.toNat = L at *
      have HL := Lib.hid hL
      clear hL hz
      go_enter Tryd.func9, Tryd.ntmps9
      go_wp2_with (first | (go_at_call 34; refine (l01Number_any _ _).mono ?_; rintro e w' ⟨rfl, rfl⟩) | (go_at_call 35; refine (l01Primitive_any _).mono ?_; rintro e w' ⟨rfl, hbP⟩) | go_in)
      go_loop [5, 6] (fun n k => ∃ (x : Int) (j : Nat), j ≤ L ∧ 0 ≤ x ∧ x < 55441 ∧ k = .int .i64 j ∧ n = .int .i64 x ∧ x = ((38 ^ j % 55441 : Nat) : Int)) (fun _ k => L - (intOf k).toNat)
      case atStart => exact ⟨1, 0, by omega, by omega, by omega, rfl, rfl, by decide⟩
      case round =>
        obtain ⟨x, j, hj, x0, x1, rfl, rfl, hx⟩ := hrel
        by_cases he : j = L
        · have hb : (x != a) = false := by
            have h3 := HL.out; rw [he, h3] at hx; simp; omega
          have He := Lib.hid he
          clear hx he
          go_wp2
          go_ret2
          exact ⟨ret_pair (by rw [He.out]; exact H1.out) H2.out, hbP⟩
        · have hb : (x != a) = true := by
            have h3 := HL.out
            simp
            intro hxa
            apply he
            have := NT.g_inj j L (by rw [h3]; generalize 38 ^ j % 55441 = u at *; omega)
            omega
          have hjl : j < L := by omega
          have Hn := Lib.hid (show x * 38 % 55441 = ((38 ^ (j + 1) % 55441 : Nat) : Int) by rw [Nat.pow_succ, hx, Nat.mul_mod]; generalize 38 ^ j % 55441 = u at *; omega)
          clear hx he
          go_wp2
          go_round
          case rel => exact ⟨x * 38 % 55441, j + 1, by omega, by omega, by omega, by go_num, rfl, Hn.out⟩
          case measure => simp [intOf]; omega
theorem l01Root_any (a : Int) (w : World) (h0 : 0 ≤ a) (h1 : a < 55441) : Calls Tryd.prog 44 #[.int .i64 a] w fun e w' => e = .returned (.int .i64 (rootF a.toNat)) ∧ w = w' := by
  go_enter Tryd.func44, Tryd.ntmps44
  go_wp2
  go_loop [3] (fun x => ∃ n : Nat, n ≤ 27721 ∧ x = .int .i64 n ∧ ∀ y, y < n → y * y % 55441 ≠ a.toNat) (fun x => 27721 - (intOf x).toNat)
  case atStart => exact ⟨0, by omega, rfl, fun y hy => absurd hy (by omega)⟩
  case round =>
    obtain ⟨n, hn, rfl, hno⟩ := hrel
    have b : (0 : Int) ≤ (n : Int) * (n : Int) ∧ (n : Int) * (n : Int) ≤ 27721 * 27721 := mul_bd _ _ _ _ (by omega) (by omega) (by omega) (by omega)
    obtain ⟨b0, b1⟩ := b
    have e : ((n * n : Nat) : Int) = (n : Int) * (n : Int) := Int.natCast_mul _ _
    by_cases hlt : n ≤ 27720
    · by_cases hh : n * n % 55441 = a.toNat
      · have H := Lib.hid (root_hit a.toNat n (by omega) hlt hh)
        have hb : ((n : Int) * (n : Int) % 55441 == a) = true := by simp; omega
        clear hh hno e
        go_wp2
        go_ret
        exact ⟨ret_int H.out.symm, rfl⟩
      · have hb : ((n : Int) * (n : Int) % 55441 == a) = false := by simp; omega
        have H := Lib.hid (show ∀ y, y < n + 1 → y * y % 55441 ≠ a.toNat from fun y hy => by
          by_cases e : y = n
          · rw [e]; exact hh
          · exact hno y (by omega))
        clear hh hno e
        go_wp2
        go_round
        case rel => exact ⟨n + 1, by omega, by go_num, H.out⟩
        case measure => simp [intOf]; omega
    · obtain rfl : n = 27721 := by omega
      have H := Lib.hid (root_none a.toNat (by omega) (fun y hy => hno y (by omega)))
      clear hno e
      go_wp2
      go_ret
      exact ⟨ret_int H.out.symm, rfl⟩
theorem ret_ib {k : IntKind} {a b : Int} {c d : Bool} (h : a = b) (h' : c = d) : Ending.returned (.tuple #[.int k a, .bool c]) = .returned (.tuple #[.int k b, .bool d]) := by rw [h, h']
theorem squareRoot_any (a : Int) (w : World) (h0 : 0 ≤ a) (h1 : a < 55441) (hT : UnitTab w) : Calls Tryd.prog 43 #[.int .i64 a] w fun e w' => e = .returned (.tuple #[.int .i64 (rtv a), .bool (rtb a)]) ∧ w = w' := by
  have HT := Lib.hid hT
  clear hT
  by_cases hz : a = 0
  · have H1 := Lib.hid (show (0 : Int) = rtv a by simp [rtv, rootF, hz])
    have H2 := Lib.hid (show true = rtb a by simp [rtb, rootF, hz])
    subst hz
    go_enter Tryd.func43, Tryd.ntmps43
    go_wp2_with fail
    go_ret2
    exact ⟨ret_ib H1.out H2.out, rfl⟩
  · have hp : 0 < a := by omega
    have hz' : (a == 0) = false := by simp [hz]
    have hN : a.toNat ≠ 0 := by omega
    obtain ⟨_, hLN⟩ := lgN_spec a.toNat (by omega) (by omega)
    by_cases ho : lgN a.toNat % 2 = 1
    · have H1 := Lib.hid (show (0 : Int) = rtv a by simp [rtv, rootF, hN, ho])
      have H2 := Lib.hid (show false = rtb a by simp [rtb, rootF, hN, ho])
      have ho' : (((lgN a.toNat : Nat) : Int) % 2 == 1) = true := by simp; omega
      clear hz ho hN
      go_enter Tryd.func43, Tryd.ntmps43
      go_wp2_with (first | (go_at_call 33; refine (log_any _ _ (by omega) (by omega) HT.out).mono ?_; rintro e w' ⟨rfl, rfl⟩) | (go_at_call 40; refine (power_any _ _ _ (by omega) (by omega) (by omega) (by omega)).mono ?_; rintro e w' ⟨rfl, rfl⟩))
      go_ret2
      exact ⟨ret_ib H1.out H2.out, rfl⟩
    · have hr : rootF a.toNat = min (pwI 38 (((lgN a.toNat : Nat) : Int) / 2)) (55441 - pwI 38 (((lgN a.toNat : Nat) : Int) / 2)) := by
        have e2 : pwI 38 (((lgN a.toNat : Nat) : Int) / 2) = ((38 ^ (lgN a.toNat / 2) % 55441 : Nat) : Int) := by
          unfold pwI
          have e1 : (((lgN a.toNat : Nat) : Int) / 2).toNat = lgN a.toNat / 2 := by omega
          rw [e1]; rfl
        rw [e2]
        simp [rootF, hN, ho]
      obtain ⟨p0, p1⟩ := pwI_bd 38 (((lgN a.toNat : Nat) : Int) / 2)
      have hnn : 0 ≤ rootF a.toNat := by rw [hr]; omega
      have H1 := Lib.hid (show rootF a.toNat = rtv a by unfold rtv; rw [if_neg (by omega)])
      have H2 := Lib.hid (show true = rtb a by simp [rtb, hnn])
      have Hr := Lib.hid hr
      have ho' : (((lgN a.toNat : Nat) : Int) % 2 == 1) = false := by simp; omega
      clear hz ho hN hr
      have C := fun w (h : UnitTab w) => log_any a w (by omega) (by omega) h
      generalize lgN a.toNat = L at *
      have HC := Lib.hid C
      clear C
      obtain ⟨x, hx⟩ : ∃ x, pwI 38 ((L : Int) / 2) = x := ⟨_, rfl⟩
      rw [hx] at p0 p1 Hr
      have Hx := Lib.hid hx
      clear hx
      by_cases hm : 55441 - x < x
      · have Hm := Lib.hid (show 55441 - x = rtv a by rw [← H1.out, Hr.out]; omega)
        clear hnn
        go_enter Tryd.func43, Tryd.ntmps43
        go_wp2_with (first | (go_at_call 33; refine (HC.out _ HT.out).mono ?_; rintro e w' ⟨rfl, rfl⟩) | (go_at_call 40; refine (power_any _ _ _ (by omega) (by omega) (by omega) (by omega)).mono ?_; rintro e w' ⟨rfl, rfl⟩; rw [Hx.out]))
        go_ret2
        exact ⟨ret_ib Hm.out H2.out, rfl⟩
      · have Hm := Lib.hid (show x = rtv a by rw [← H1.out, Hr.out]; omega)
        clear hnn
        go_enter Tryd.func43, Tryd.ntmps43
        go_wp2_with (first | (go_at_call 33; refine (HC.out _ HT.out).mono ?_; rintro e w' ⟨rfl, rfl⟩) | (go_at_call 40; refine (power_any _ _ _ (by omega) (by omega) (by omega) (by omega)).mono ?_; rintro e w' ⟨rfl, rfl⟩; rw [Hx.out]))
        go_ret2
        exact ⟨ret_ib Hm.out H2.out, rfl⟩
end Go.Proofs.YtjmkmcabpjmkgaaDoor
