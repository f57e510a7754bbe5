/- The functions of square roots and orders of chapter 1. -/
import Derived.Test.YtjmkmcabpjmkgabDoorNumH
namespace Go.Proofs.YtjmkmcabpjmkgabDoor
open Go.RowKit
theorem implSqrt_any (a : Int) (w : World) (hT : UnitTab w) : Calls Tryd.prog 10 #[.int .i64 a] w fun e w' => e = .returned (.tuple #[.int .i64 (fSqrt a), .int .i64 (cSqrt a)]) ∧ w = w' := by
  have HT := Lib.hid hT
  clear hT
  cases ha : numB a
  · have H1 := Lib.hid (show (0 : Int) = fSqrt a by simp [fSqrt, ha])
    have H2 := Lib.hid (show (2 : Int) = cSqrt a by simp [cSqrt, ha])
    go_enter Tryd.func10, Tryd.ntmps10
    go_wp2_with (first | (go_at_call 17; refine (isNumber_any _ _).mono ?_; rintro e w' ⟨rfl, rfl⟩) | (go_at_call 20; refine (squareRoot_any _ _ (by omega) (by omega) HT.out).mono ?_; rintro e w' ⟨rfl, rfl⟩) | go_in)
    go_ret2
    exact ⟨ret_pair H1.out H2.out, rfl⟩
  · have ha' := numB_t ha
    by_cases hz : 0 ≤ rootF a.toNat
    · have H1 := Lib.hid (show (rtv a : Int) = fSqrt a by simp [fSqrt, ha])
      have H2 := Lib.hid (show (0 : Int) = cSqrt a by simp [cSqrt, ha, hz])
      have hb : rtb a = true := by simp [rtb, hz]
      clear hz
      go_enter Tryd.func10, Tryd.ntmps10
      go_wp2_with (first | (go_at_call 17; refine (isNumber_any _ _).mono ?_; rintro e w' ⟨rfl, rfl⟩) | (go_at_call 20; refine (squareRoot_any _ _ (by omega) (by omega) HT.out).mono ?_; rintro e w' ⟨rfl, rfl⟩) | go_in)
      go_ret2
      exact ⟨ret_pair H1.out H2.out, rfl⟩
    · have H1 := Lib.hid (show (0 : Int) = fSqrt a by simp [fSqrt, ha, rtv]; omega)
      have H2 := Lib.hid (show (4 : Int) = cSqrt a by simp [cSqrt, ha, hz])
      have hb : rtb a = false := by simp [rtb]; omega
      clear hz
      go_enter Tryd.func10, Tryd.ntmps10
      go_wp2_with (first | (go_at_call 17; refine (isNumber_any _ _).mono ?_; rintro e w' ⟨rfl, rfl⟩) | (go_at_call 20; refine (squareRoot_any _ _ (by omega) (by omega) HT.out).mono ?_; rintro e w' ⟨rfl, rfl⟩) | go_in)
      go_ret2
      exact ⟨ret_pair H1.out H2.out, rfl⟩
theorem specSqrt_any (a : Int) (w : World) : Calls Tryd.prog 9 #[.int .i64 a] w fun e w' => e = .returned (.tuple #[.int .i64 (fSqrt a), .int .i64 (cSqrt a)]) ∧ w = w' := by
  cases ha : numB a
  · have H1 := Lib.hid (show (0 : Int) = fSqrt a by simp [fSqrt, ha])
    have H2 := Lib.hid (show (2 : Int) = cSqrt a by simp [cSqrt, ha])
    go_enter Tryd.func9, Tryd.ntmps9
    go_wp2_with (first | (go_at_call 15; refine (l01Number_any _ _).mono ?_; rintro e w' ⟨rfl, rfl⟩) | (go_at_call 19; refine (l01Root_any _ _ (by omega) (by omega)).mono ?_; rintro e w' ⟨rfl, rfl⟩) | go_in)
    go_ret2
    exact ⟨ret_pair H1.out H2.out, rfl⟩
  · have ha' := numB_t ha
    by_cases hz : 0 ≤ rootF a.toNat
    · have H1 := Lib.hid (show (rootF a.toNat : Int) = fSqrt a by simp [fSqrt, ha]; unfold rtv; rw [if_neg (by omega)])
      have H2 := Lib.hid (show (0 : Int) = cSqrt a by simp [cSqrt, ha, hz])
      go_enter Tryd.func9, Tryd.ntmps9
      go_wp2_with (first | (go_at_call 15; refine (l01Number_any _ _).mono ?_; rintro e w' ⟨rfl, rfl⟩) | (go_at_call 19; refine (l01Root_any _ _ (by omega) (by omega)).mono ?_; rintro e w' ⟨rfl, rfl⟩) | go_in)
      go_ret2
      exact ⟨ret_pair H1.out H2.out, rfl⟩
    · have H1 := Lib.hid (show (0 : Int) = fSqrt a by simp [fSqrt, ha, rtv]; omega)
      have H2 := Lib.hid (show (4 : Int) = cSqrt a by simp [cSqrt, ha, hz])
      have hl : rootF a.toNat < 0 := by omega
      clear hz
      go_enter Tryd.func9, Tryd.ntmps9
      go_wp2_with (first | (go_at_call 15; refine (l01Number_any _ _).mono ?_; rintro e w' ⟨rfl, rfl⟩) | (go_at_call 19; refine (l01Root_any _ _ (by omega) (by omega)).mono ?_; rintro e w' ⟨rfl, rfl⟩) | go_in)
      go_ret2
      exact ⟨ret_pair H1.out H2.out, rfl⟩
end Go.Proofs.YtjmkmcabpjmkgabDoor
