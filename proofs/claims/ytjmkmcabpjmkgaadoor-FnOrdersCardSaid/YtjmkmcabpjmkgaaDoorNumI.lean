/- The functions of square roots and orders of chapter 1. -/
import Derived.Test.YtjmkmcabpjmkgaaDoorNumH
namespace Go.Proofs.YtjmkmcabpjmkgaaDoor
open Go.RowKit
theorem implSqrt_any (a : Int) (w : World) (hT : UnitTab w) : Calls Tryd.prog 18 #[.int .i64 a] w fun e w' => e = .returned (.tuple #[.int .i64 (fSqrt a), .int .i64 (cSqrt a)]) ∧ w = w' := by
  have HT := Lib.hid hT
  clear hT
  cases ha : numB a
  · have H1 := Lib.hid (show (0 : Int) = fSqrt a by simp [fSqrt, ha])
    have H2 := Lib.hid (show (2 : Int) = cSqrt a by simp [cSqrt, ha])
    go_enter Tryd.func18, Tryd.ntmps18
    go_wp2_with (first | (go_at_call 32; refine (isNumber_any _ _).mono ?_; rintro e w' ⟨rfl, rfl⟩) | (go_at_call 43; refine (squareRoot_any _ _ (by omega) (by omega) HT.out).mono ?_; rintro e w' ⟨rfl, rfl⟩) | go_in)
    go_ret2
    exact ⟨ret_pair H1.out H2.out, rfl⟩
  · have ha' := numB_t ha
    by_cases hz : 0 ≤ rootF a.toNat
    · have H1 := Lib.hid (show (rtv a : Int) = fSqrt a by simp [fSqrt, ha])
      have H2 := Lib.hid (show (0 : Int) = cSqrt a by simp [cSqrt, ha, hz])
      have hb : rtb a = true := by simp [rtb, hz]
      clear hz
      go_enter Tryd.func18, Tryd.ntmps18
      go_wp2_with (first | (go_at_call 32; refine (isNumber_any _ _).mono ?_; rintro e w' ⟨rfl, rfl⟩) | (go_at_call 43; refine (squareRoot_any _ _ (by omega) (by omega) HT.out).mono ?_; rintro e w' ⟨rfl, rfl⟩) | go_in)
      go_ret2
      exact ⟨ret_pair H1.out H2.out, rfl⟩
    · have H1 := Lib.hid (show (0 : Int) = fSqrt a by simp [fSqrt, ha, rtv]; omega)
      have H2 := Lib.hid (show (4 : Int) = cSqrt a by simp [cSqrt, ha, hz])
      have hb : rtb a = false := by simp [rtb]; omega
      clear hz
      go_enter Tryd.func18, Tryd.ntmps18
      go_wp2_with (first | (go_at_call 32; refine (isNumber_any _ _).mono ?_; rintro e w' ⟨rfl, rfl⟩) | (go_at_call 43; refine (squareRoot_any _ _ (by omega) (by omega) HT.out).mono ?_; rintro e w' ⟨rfl, rfl⟩) | go_in)
      go_ret2
      exact ⟨ret_pair H1.out H2.out, rfl⟩
theorem specSqrt_any (a : Int) (w : World) : Calls Tryd.prog 19 #[.int .i64 a] w fun e w' => e = .returned (.tuple #[.int .i64 (fSqrt a), .int .i64 (cSqrt a)]) ∧ w = w' := by
  cases ha : numB a
  · have H1 := Lib.hid (show (0 : Int) = fSqrt a by simp [fSqrt, ha])
    have H2 := Lib.hid (show (2 : Int) = cSqrt a by simp [cSqrt, ha])
    go_enter Tryd.func19, Tryd.ntmps19
    go_wp2_with (first | (go_at_call 34; refine (l01Number_any _ _).mono ?_; rintro e w' ⟨rfl, rfl⟩) | (go_at_call 44; refine (l01Root_any _ _ (by omega) (by omega)).mono ?_; rintro e w' ⟨rfl, rfl⟩) | go_in)
    go_ret2
    exact ⟨ret_pair H1.out H2.out, rfl⟩
  · have ha' := numB_t ha
    by_cases hz : 0 ≤ rootF a.toNat
    · have H1 := Lib.hid (show (rootF a.toNat : Int) = fSqrt a by simp [fSqrt, ha]; unfold rtv; rw [if_neg (by omega)])
      have H2 := Lib.hid (show (0 : Int) = cSqrt a by simp [cSqrt, ha, hz])
      go_enter Tryd.func19, Tryd.ntmps19
      go_wp2_with (first | (go_at_call 34; refine (l01Number_any _ _).mono ?_; rintro e w' ⟨rfl, rfl⟩) | (go_at_call 44; refine (l01Root_any _ _ (by omega) (by omega)).mono ?_; rintro e w' ⟨rfl, rfl⟩) | go_in)
      go_ret2
      exact ⟨ret_pair H1.out H2.out, rfl⟩
    · have H1 := Lib.hid (show (0 : Int) = fSqrt a by simp [fSqrt, ha, rtv]; omega)
      have H2 := Lib.hid (show (4 : Int) = cSqrt a by simp [cSqrt, ha, hz])
      have hl : rootF a.toNat < 0 := by omega
      clear hz
      go_enter Tryd.func19, Tryd.ntmps19
      go_wp2_with (first | (go_at_call 34; refine (l01Number_any _ _).mono ?_; rintro e w' ⟨rfl, rfl⟩) | (go_at_call 44; refine (l01Root_any _ _ (by omega) (by omega)).mono ?_; rintro e w' ⟨rfl, rfl⟩) | go_in)
      go_ret2
      exact ⟨ret_pair H1.out H2.out, rfl⟩
theorem implOrd_bad (a : Int) (w : World) (ha : numB a = false) : Calls Tryd.prog 10 #[.int .i64 a] w fun e w' => e = .returned (.tuple #[.int .i64 0, .int .i64 2]) ∧ w = w' := by
  go_enter Tryd.func10, Tryd.ntmps10
  go_wp2_with (go_at_call 32; refine (isNumber_any _ _).mono ?_; rintro e w' ⟨rfl, rfl⟩)
  go_ret2
  exact ⟨rfl, rfl⟩
theorem implOrd_zero (w : World) : Calls Tryd.prog 10 #[.int .i64 0] w fun e w' => e = .returned (.tuple #[.int .i64 0, .int .i64 5]) ∧ w = w' := by
  have ha : numB 0 = true := numB_zero'
  go_enter Tryd.func10, Tryd.ntmps10
  go_wp2_with (go_at_call 32; refine (isNumber_any _ _).mono ?_; rintro e w' ⟨rfl, rfl⟩)
  go_ret2
  exact ⟨rfl, rfl⟩
theorem implOrd_ok (a : Int) (d : Nat) (w : World) (h0 : 0 < a) (h1 : a < 55441) (hd : NT.IsOrder a.toNat d) (hT : UnitTab w) : Calls Tryd.prog 10 #[.int .i64 a] w fun e w' => e = .returned (.tuple #[.int .i64 d, .int .i64 0]) ∧ w = w' := by
  have HT := Lib.hid hT
  have Hd := Lib.hid hd
  clear hT hd
  have ha : numB a = true := numB_mk (by omega) h1
  have hz : (a == 0) = false := by simp; omega
  go_enter Tryd.func10, Tryd.ntmps10
  go_wp2_with (first | (go_at_call 32; refine (isNumber_any _ _).mono ?_; rintro e w' ⟨rfl, rfl⟩) | (go_at_call 36; refine (order_any _ d _ (by omega) (by omega) Hd.out HT.out).mono ?_; rintro e w' ⟨rfl, rfl⟩))
  go_ret2
  exact ⟨rfl, rfl⟩
theorem specOrd_bad (a : Int) (w : World) (ha : numB a = false) : Calls Tryd.prog 11 #[.int .i64 a] w fun e w' => e = .returned (.tuple #[.int .i64 0, .int .i64 2]) ∧ w = w' := by
  go_enter Tryd.func11, Tryd.ntmps11
  go_wp2_with (go_at_call 34; refine (l01Number_any _ _).mono ?_; rintro e w' ⟨rfl, rfl⟩)
  go_ret2
  exact ⟨rfl, rfl⟩
theorem specOrd_zero (w : World) : Calls Tryd.prog 11 #[.int .i64 0] w fun e w' => e = .returned (.tuple #[.int .i64 0, .int .i64 5]) ∧ w = w' := by
  have ha : numB 0 = true := numB_zero'
  go_enter Tryd.func11, Tryd.ntmps11
  go_wp2_with (go_at_call 34; refine (l01Number_any _ _).mono ?_; rintro e w' ⟨rfl, rfl⟩)
  go_ret2
  exact ⟨rfl, rfl⟩
theorem specOrd_ok (a : Int) (d : Nat) (w : World) (h0 : 0 < a) (h1 : a < 55441) (hd : NT.IsOrder a.toNat d) : Calls Tryd.prog 11 #[.int .i64 a] w fun e w' => e = .returned (.tuple #[.int .i64 d, .int .i64 0]) ∧ Below w.heap.size w w' := by
  have Hd := Lib.hid hd
  clear hd
  have ha : numB a = true := numB_mk (by omega) h1
  have hz : (a == 0) = false := by simp; omega
  go_enter Tryd.func11, Tryd.ntmps11
  go_wp2_with (first | (go_at_call 34; refine (l01Number_any _ _).mono ?_; rintro e w' ⟨rfl, rfl⟩) | (go_at_call 37; refine (l01Order_any _ d _ (by omega) (by omega) Hd.out).mono ?_; rintro e w' ⟨rfl, hb⟩))
  go_ret2
  exact ⟨rfl, hb⟩
end Go.Proofs.YtjmkmcabpjmkgaaDoor
