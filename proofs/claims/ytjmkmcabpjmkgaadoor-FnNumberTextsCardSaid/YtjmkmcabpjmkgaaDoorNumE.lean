/- Roots of unity and short fractions of chapter 1. -/
import Derived.Test.YtjmkmcabpjmkgaaDoorNumD
import Derived.Deep.RegionWith
namespace Go.Proofs.YtjmkmcabpjmkgaaDoor
open Go.RowKit

/-- the numerator that belongs to a denominator -/
def shP (a q : Int) : Int := if 166 < a * q % 55441 then a * q % 55441 - 55441 else a * q % 55441
/-- the short fraction with the least denominator from q on; 0, 0 if there is none -/
def shSearch (a : Int) : Nat → Int → Int × Int
  | 0, _ => (0, 0)
  | n + 1, q => if -166 ≤ shP a q then (shP a q, q) else shSearch a n (q + 1)
def shFrom (a q : Int) : Int × Int := shSearch a (167 - q).toNat q
/-- the short fraction -/
def sp (a : Int) : Int := (shFrom a 1).1
def sq (a : Int) : Int := (shFrom a 1).2
theorem shFrom_end (a : Int) : shFrom a 167 = (0, 0) := rfl
theorem shFrom_hit (a q : Int) (hq : q ≤ 166) (h : -166 ≤ shP a q) : shFrom a q = (shP a q, q) := by
  unfold shFrom
  obtain ⟨n, hn⟩ : ∃ n : Nat, (167 - q).toNat = n + 1 := ⟨(166 - q).toNat, by omega⟩
  rw [hn, shSearch, if_pos h]
theorem shFrom_miss (a q : Int) (hq : q ≤ 166) (h : ¬ -166 ≤ shP a q) : shFrom a q = shFrom a (q + 1) := by
  unfold shFrom
  obtain ⟨n, hn⟩ : ∃ n : Nat, (167 - q).toNat = n + 1 := ⟨(166 - q).toNat, by omega⟩
  have hn' : (167 - (q + 1)).toNat = n := by omega
  rw [hn, hn', shSearch, if_neg h]
theorem shFrom_hit1 (a q : Int) (hq : q ≤ 166) (hx : 166 < a * q % 55441) (hy : -166 ≤ a * q % 55441 - 55441) : shFrom a q = (a * q % 55441 - 55441, q) := by
  have e : shP a q = a * q % 55441 - 55441 := by unfold shP; rw [if_pos hx]
  rw [shFrom_hit a q hq (by rw [e]; exact hy), e]
theorem shFrom_hit2 (a q : Int) (hq : q ≤ 166) (hx : ¬ 166 < a * q % 55441) (_hy : 0 ≤ a * q % 55441) : shFrom a q = (a * q % 55441, q) := by
  have e : shP a q = a * q % 55441 := by unfold shP; rw [if_neg hx]
  rw [shFrom_hit a q hq (by rw [e]; omega), e]
theorem short_bd (a q : Int) (h0 : 0 ≤ a) (h1 : a < 55441) (q0 : 1 ≤ q) (hq : q ≤ 166) : 0 ≤ a * q ∧ a * q ≤ 9203040 := by
  refine ⟨Int.mul_nonneg h0 (by omega), ?_⟩
  have h2 : a * q ≤ 55440 * q := Int.mul_le_mul_of_nonneg_right (by omega) (by omega)
  omega
/-- the bounds of a short fraction -/
theorem shFrom_bd (a : Int) : ∀ (n : Nat) (q : Int), 0 ≤ q → -166 ≤ (shSearch a n q).1 ∧ (shSearch a n q).1 ≤ 166 ∧ 0 ≤ (shSearch a n q).2 ∧ (shSearch a n q).2 ≤ q + n := by
  intro n
  induction n with
  | zero => intro q hq; simp [shSearch]; omega
  | succ n ih =>
    intro q hq
    rw [shSearch]
    split
    · rename_i h
      refine ⟨h, ?_, hq, by omega⟩
      show shP a q ≤ 166
      unfold shP; split <;> omega
    · have := ih (q + 1) (by omega)
      omega
theorem sp_bd (a : Int) : -166 ≤ sp a ∧ sp a ≤ 166 ∧ 0 ≤ sq a ∧ sq a ≤ 167 := by
  have := shFrom_bd a 166 1 (by omega)
  show -166 ≤ (shSearch a 166 1).1 ∧ (shSearch a 166 1).1 ≤ 166 ∧ 0 ≤ (shSearch a 166 1).2 ∧ (shSearch a 166 1).2 ≤ 167
  omega
theorem ret_pairs {a b : Int} {x : Int × Int} (h : x = (a, b)) : Ending.returned (.tuple #[.int .i64 a, .int .i64 b]) = .returned (.tuple #[.int .i64 x.1, .int .i64 x.2]) := by rw [h]
theorem ret_triples {a b : Int} {c : Bool} {x : Int × Int} (h : x = (a, b)) (h' : (!(x.2 == 0)) = c) : Ending.returned (.tuple #[.int .i64 a, .int .i64 b, .bool c]) = .returned (.tuple #[.int .i64 x.1, .int .i64 x.2, .bool (!(x.2 == 0))]) := by rw [h', h]
theorem l01Short_any (a : Int) (w : World) (h0 : 0 ≤ a) (h1 : a < 55441) : Calls Tryd.prog 49 #[.int .i64 a] w fun e w' => e = .returned (.tuple #[.int .i64 (sp a), .int .i64 (sq a)]) ∧ w = w' := by
  go_enter Tryd.func49, Tryd.ntmps49
  go_wp2
  go_loop [4, 5] (fun s _ => ∃ q : Int, 1 ≤ q ∧ q ≤ 167 ∧ s = .int .i64 q ∧ shFrom a 1 = shFrom a q) (fun s _ => (167 - intOf s).toNat)
  case atStart => exact ⟨1, by omega, by omega, rfl, rfl⟩
  case round =>
    obtain ⟨q, q0, q1, rfl, hs⟩ := hrel
    by_cases hq : q ≤ 166
    · obtain ⟨b0, b1⟩ := short_bd a q h0 h1 q0 hq
      by_cases hx : 166 < a * q % 55441
      · by_cases hy : -166 ≤ a * q % 55441 - 55441
        · have H := Lib.hid (shFrom_hit1 a q hq hx hy)
          have H2 := Lib.hid hs
          clear hs
          go_wp2
          go_ret2
          exact ⟨ret_pairs (H2.out.trans H.out), rfl⟩
        · have H := Lib.hid (shFrom_miss a q hq (by unfold shP; rw [if_pos hx]; exact hy))
          have H2 := Lib.hid hs
          clear hs
          go_wp2
          go_round
          case rel => exact ⟨q + 1, by omega, by omega, rfl, by rw [← H.out]; exact H2.out⟩
          case measure => simp [intOf]; omega
      · have H := Lib.hid (shFrom_hit2 a q hq hx (by omega))
        have H2 := Lib.hid hs
        clear hs
        go_wp2
        go_ret2
        exact ⟨ret_pairs (H2.out.trans H.out), rfl⟩
    · obtain rfl : q = 167 := by omega
      have H2 := Lib.hid hs
      clear hs
      go_wp2
      go_ret2
      exact ⟨ret_pairs (H2.out.trans (shFrom_end a)), rfl⟩
theorem short_any (a : Int) (w : World) (h0 : 0 ≤ a) (h1 : a < 55441) : Calls Tryd.prog 48 #[.int .i64 a] w fun e w' => e = .returned (.tuple #[.int .i64 (sp a), .int .i64 (sq a), .bool (!(sq a == 0))]) ∧ w = w' := by
  go_enter Tryd.func48, Tryd.ntmps48
  go_wp2
  go_loop [5, 6] (fun s _ => ∃ q : Int, 1 ≤ q ∧ q ≤ 167 ∧ s = .int .i64 q ∧ shFrom a 1 = shFrom a q) (fun s _ => (167 - intOf s).toNat)
  case atStart => exact ⟨1, by omega, by omega, rfl, rfl⟩
  case round =>
    obtain ⟨q, q0, q1, rfl, hs⟩ := hrel
    by_cases hq : q ≤ 166
    · obtain ⟨b0, b1⟩ := short_bd a q h0 h1 q0 hq
      by_cases hx : 166 < a * q % 55441
      · by_cases hy : -166 ≤ a * q % 55441 - 55441
        · have H := Lib.hid (shFrom_hit1 a q hq hx hy)
          have H2 := Lib.hid hs
          clear hs
          go_wp2
          go_ret3
          exact ⟨ret_triples (H2.out.trans H.out) (by rw [H2.out.trans H.out]; simp; omega), rfl⟩
        · have H := Lib.hid (shFrom_miss a q hq (by unfold shP; rw [if_pos hx]; exact hy))
          have H2 := Lib.hid hs
          clear hs
          go_wp2
          go_round
          case rel => exact ⟨q + 1, by omega, by omega, rfl, by rw [← H.out]; exact H2.out⟩
          case measure => simp [intOf]; omega
      · have H := Lib.hid (shFrom_hit2 a q hq hx (by omega))
        have H2 := Lib.hid hs
        clear hs
        go_wp2
        go_ret3
        exact ⟨ret_triples (H2.out.trans H.out) (by rw [H2.out.trans H.out]; simp; omega), rfl⟩
    · obtain rfl : q = 167 := by omega
      have H2 := Lib.hid hs
      clear hs
      go_wp2
      go_ret3
      exact ⟨ret_triples (H2.out.trans (shFrom_end a)) (by rw [H2.out.trans (shFrom_end a)]; rfl), rfl⟩
def cShort (a : Int) : Int := if numB a = true then (if sq a = 0 then 4 else 0) else 2
def fsp (a : Int) : Int := if (numB a && !(sq a == 0)) = true then sp a else 0
def fsq (a : Int) : Int := if (numB a && !(sq a == 0)) = true then sq a else 0
theorem ret_int3 {a b c a' b' c' : Int} (h1 : a = a') (h2 : b = b') (h3 : c = c') : Ending.returned (.tuple #[.int .i64 a, .int .i64 b, .int .i64 c]) = .returned (.tuple #[.int .i64 a', .int .i64 b', .int .i64 c']) := by rw [h1, h2, h3]
theorem implShort_any (a : Int) (w : World) : Calls Tryd.prog 25 #[.int .i64 a] w fun e w' => e = .returned (.tuple #[.int .i64 (fsp a), .int .i64 (fsq a), .int .i64 (cShort a)]) ∧ w = w' := by
  cases ha : numB a
  · have Hfsp := Lib.hid (show (0 : Int) = fsp a by simp [fsp, ha])
    have Hfsq := Lib.hid (show (0 : Int) = fsq a by simp [fsq, ha])
    have HcSh := Lib.hid (show (2 : Int) = cShort a by simp [cShort, ha])
    go_enter Tryd.func25, Tryd.ntmps25
    go_wp2_with (first | (go_at_call 32; refine (isNumber_any _ _).mono ?_; rintro e w' ⟨rfl, rfl⟩) | (go_at_call 48; refine (short_any _ _ (by omega) (by omega)).mono ?_; rintro e w' ⟨rfl, rfl⟩) | go_in)
    go_ret3
    exact ⟨ret_int3 Hfsp.out Hfsq.out HcSh.out, rfl⟩
  · have ha' := numB_t ha
    by_cases hz : sq a = 0
    · have Hfsp := Lib.hid (show (0 : Int) = fsp a by simp [fsp, hz])
      have Hfsq := Lib.hid (show (0 : Int) = fsq a by simp [fsq, hz])
      have HcSh := Lib.hid (show (4 : Int) = cShort a by simp [cShort, ha, hz])
      have hz' : (sq a == 0) = true := by simp [hz]
      clear hz
      go_enter Tryd.func25, Tryd.ntmps25
      go_wp2_with (first | (go_at_call 32; refine (isNumber_any _ _).mono ?_; rintro e w' ⟨rfl, rfl⟩) | (go_at_call 48; refine (short_any _ _ (by omega) (by omega)).mono ?_; rintro e w' ⟨rfl, rfl⟩) | go_in)
      go_ret3
      exact ⟨ret_int3 Hfsp.out Hfsq.out HcSh.out, rfl⟩
    · have Hfsp := Lib.hid (show (sp a : Int) = fsp a by simp [fsp, ha, hz])
      have Hfsq := Lib.hid (show (sq a : Int) = fsq a by simp [fsq, ha, hz])
      have HcSh := Lib.hid (show (0 : Int) = cShort a by simp [cShort, ha, hz])
      have hz' : (sq a == 0) = false := by simp [hz]
      clear hz
      go_enter Tryd.func25, Tryd.ntmps25
      go_wp2_with (first | (go_at_call 32; refine (isNumber_any _ _).mono ?_; rintro e w' ⟨rfl, rfl⟩) | (go_at_call 48; refine (short_any _ _ (by omega) (by omega)).mono ?_; rintro e w' ⟨rfl, rfl⟩) | go_in)
      go_ret3
      exact ⟨ret_int3 Hfsp.out Hfsq.out HcSh.out, rfl⟩
theorem specShort_any (a : Int) (w : World) : Calls Tryd.prog 26 #[.int .i64 a] w fun e w' => e = .returned (.tuple #[.int .i64 (fsp a), .int .i64 (fsq a), .int .i64 (cShort a)]) ∧ w = w' := by
  cases ha : numB a
  · have Hfsp := Lib.hid (show (0 : Int) = fsp a by simp [fsp, ha])
    have Hfsq := Lib.hid (show (0 : Int) = fsq a by simp [fsq, ha])
    have HcSh := Lib.hid (show (2 : Int) = cShort a by simp [cShort, ha])
    go_enter Tryd.func26, Tryd.ntmps26
    go_wp2_with (first | (go_at_call 34; refine (l01Number_any _ _).mono ?_; rintro e w' ⟨rfl, rfl⟩) | (go_at_call 49; refine (l01Short_any _ _ (by omega) (by omega)).mono ?_; rintro e w' ⟨rfl, rfl⟩) | go_in)
    go_ret3
    exact ⟨ret_int3 Hfsp.out Hfsq.out HcSh.out, rfl⟩
  · have ha' := numB_t ha
    by_cases hz : sq a = 0
    · have Hfsp := Lib.hid (show (0 : Int) = fsp a by simp [fsp, hz])
      have Hfsq := Lib.hid (show (0 : Int) = fsq a by simp [fsq, hz])
      have HcSh := Lib.hid (show (4 : Int) = cShort a by simp [cShort, ha, hz])
      have hz' : (sq a == 0) = true := by simp [hz]
      clear hz
      go_enter Tryd.func26, Tryd.ntmps26
      go_wp2_with (first | (go_at_call 34; refine (l01Number_any _ _).mono ?_; rintro e w' ⟨rfl, rfl⟩) | (go_at_call 49; refine (l01Short_any _ _ (by omega) (by omega)).mono ?_; rintro e w' ⟨rfl, rfl⟩) | go_in)
      go_ret3
      exact ⟨ret_int3 Hfsp.out Hfsq.out HcSh.out, rfl⟩
    · have Hfsp := Lib.hid (show (sp a : Int) = fsp a by simp [fsp, ha, hz])
      have Hfsq := Lib.hid (show (sq a : Int) = fsq a by simp [fsq, ha, hz])
      have HcSh := Lib.hid (show (0 : Int) = cShort a by simp [cShort, ha, hz])
      have hz' : (sq a == 0) = false := by simp [hz]
      clear hz
      go_enter Tryd.func26, Tryd.ntmps26
      go_wp2_with (first | (go_at_call 34; refine (l01Number_any _ _).mono ?_; rintro e w' ⟨rfl, rfl⟩) | (go_at_call 49; refine (l01Short_any _ _ (by omega) (by omega)).mono ?_; rintro e w' ⟨rfl, rfl⟩) | go_in)
      go_ret3
      exact ⟨ret_int3 Hfsp.out Hfsq.out HcSh.out, rfl⟩
def fRoot (n : Int) : Int := if 1 ≤ n ∧ 55440 % n = 0 then pwI 38 (55440 / n) else 0
def cRoot (n : Int) : Int := if 1 ≤ n then (if 55440 % n = 0 then 0 else 5) else 2
theorem quo_bd (n : Int) (h : 1 ≤ n) : 0 ≤ 55440 / n ∧ 55440 / n ≤ 55440 :=
  ⟨Int.ediv_nonneg (by omega) (by omega), Int.ediv_le_self _ (by omega)⟩
theorem l01Unity_any (n : Int) (w : World) (h : 1 ≤ n) : Calls Tryd.prog 42 #[.int .i64 n] w fun e w' => e = .returned (.int .i64 (pwI 38 (55440 / n))) ∧ Below w.heap.size w w' := by
  obtain ⟨q0, q1⟩ := quo_bd n h
  go_enter Tryd.func42, Tryd.ntmps42
  go_wp2_with fail
  go_region_with (first | (go_at_call 35; refine (l01Primitive_any _).mono ?_; rintro e w' ⟨rfl, hbP⟩) | (go_at_call 60; refine (l01Pow_any _ _ _ (by omega) (by omega) (by omega) (by omega)).mono ?_; rintro e w' ⟨rfl, rfl⟩))
  all_goals
    go_wp2_with fail
    go_ret
    exact ⟨rfl, (Below.drew (Below.refl w.heap.size w)).trans hbP⟩
theorem implRoot_any (n : Int) (w : World) : Calls Tryd.prog 15 #[.int .i64 n] w fun e w' => e = .returned (.tuple #[.int .i64 (fRoot n), .int .i64 (cRoot n)]) ∧ w = w' := by
  by_cases h : 1 ≤ n
  · obtain ⟨q0, q1⟩ := quo_bd n h
    by_cases hd : 55440 % n = 0
    · have H1 := Lib.hid (show pwI 38 (55440 / n) = fRoot n by simp [fRoot, h, hd])
      have H2 := Lib.hid (show (0 : Int) = cRoot n by simp [cRoot, h, hd])
      have hd' : ((55440 % n : Int) == 0) = true := by simp [hd]
      have hd'' : ((55440 % n : Int) != 0) = false := by simp [hd]
      clear hd
      go_enter Tryd.func15, Tryd.ntmps15
      go_wp2_with (go_at_call 40; refine (power_any _ _ _ (by omega) (by omega) (by omega) (by omega)).mono ?_; rintro e w' ⟨rfl, rfl⟩)
      go_ret2
      exact ⟨ret_pair H1.out H2.out, rfl⟩
    · have H1 := Lib.hid (show (0 : Int) = fRoot n by simp [fRoot, hd])
      have H2 := Lib.hid (show (5 : Int) = cRoot n by simp [cRoot, h, hd])
      have hd' : ((55440 % n : Int) == 0) = false := by simp [hd]
      have hd'' : ((55440 % n : Int) != 0) = true := by simp [hd]
      clear hd
      go_enter Tryd.func15, Tryd.ntmps15
      go_wp2_with (go_at_call 40; refine (power_any _ _ _ (by omega) (by omega) (by omega) (by omega)).mono ?_; rintro e w' ⟨rfl, rfl⟩)
      go_ret2
      exact ⟨ret_pair H1.out H2.out, rfl⟩
  · have H1 := Lib.hid (show (0 : Int) = fRoot n by simp [fRoot, h])
    have H2 := Lib.hid (show (2 : Int) = cRoot n by simp [cRoot, h])
    have h' : n < 1 := by omega
    clear h
    go_enter Tryd.func15, Tryd.ntmps15
    go_wp2_with (go_at_call 40; refine (power_any _ _ _ (by omega) (by omega) (by omega) (by omega)).mono ?_; rintro e w' ⟨rfl, rfl⟩)
    go_ret2
    exact ⟨ret_pair H1.out H2.out, rfl⟩
theorem specRoot_any (n : Int) (w : World) : Calls Tryd.prog 16 #[.int .i64 n] w fun e w' => e = .returned (.tuple #[.int .i64 (fRoot n), .int .i64 (cRoot n)]) ∧ Below w.heap.size w w' := by
  by_cases h : 1 ≤ n
  · obtain ⟨q0, q1⟩ := quo_bd n h
    by_cases hd : 55440 % n = 0
    · have H1 := Lib.hid (show pwI 38 (55440 / n) = fRoot n by simp [fRoot, h, hd])
      have H2 := Lib.hid (show (0 : Int) = cRoot n by simp [cRoot, h, hd])
      have hd' : ((55440 % n : Int) == 0) = true := by simp [hd]
      clear hd
      go_enter Tryd.func16, Tryd.ntmps16
      go_wp2_with (first | (go_at_call 42; refine (l01Unity_any _ _ (by omega)).mono ?_; rintro e w' ⟨rfl, hbU⟩) | go_in)
      go_ret2
      exact ⟨ret_pair H1.out H2.out, hbU⟩
    · have H1 := Lib.hid (show (0 : Int) = fRoot n by simp [fRoot, hd])
      have H2 := Lib.hid (show (5 : Int) = cRoot n by simp [cRoot, h, hd])
      have hd' : ((55440 % n : Int) == 0) = false := by simp [hd]
      clear hd
      go_enter Tryd.func16, Tryd.ntmps16
      go_wp2_with (first | (go_at_call 42; refine (l01Unity_any _ _ (by omega)).mono ?_; rintro e w' ⟨rfl, hbU⟩) | go_in)
      go_ret2
      exact ⟨ret_pair H1.out H2.out, Below.refl _ _⟩
  · have H1 := Lib.hid (show (0 : Int) = fRoot n by simp [fRoot, h])
    have H2 := Lib.hid (show (2 : Int) = cRoot n by simp [cRoot, h])
    have h' : n < 1 := by omega
    clear h
    go_enter Tryd.func16, Tryd.ntmps16
    go_wp2_with (first | (go_at_call 42; refine (l01Unity_any _ _ (by omega)).mono ?_; rintro e w' ⟨rfl, hbU⟩) | go_in)
    go_ret2
    exact ⟨ret_pair H1.out H2.out, Below.refl _ _⟩
end Go.Proofs.YtjmkmcabpjmkgaaDoor
