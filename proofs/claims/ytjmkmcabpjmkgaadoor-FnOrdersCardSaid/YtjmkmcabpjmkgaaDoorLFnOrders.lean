/- 'FnOrders': for all arguments the law answers true, where the table unitFactors holds what the program's text lays. -/
import Derived.Test.YtjmkmcabpjmkgaaDoorCards
import Derived.Test.YtjmkmcabpjmkgaaDoorTie
import Derived.Test.YtjmkmcabpjmkgaaDoorFnOW
import Derived.OpenShut
import Derived.OpenVars
import Derived.Deep.DeepHandedRow
import Derived.Lib.LaidTab
namespace Go.Proofs.YtjmkmcabpjmkgaaDoor.fnOrders
open Go.ChangeShapes Go.WideShapes Go.ChangeAt Go.RowKit
set_option linter.unusedVariables false

theorem own : ownKnob Tryd.prog.godebug = none := by kernel_rfl
theorem laidOut : laidOutB Tryd.prog = true := by kernel_rfl
theorem gTab : Tryd.prog.globalNamed "loop.example/g01132/impl.unitFactors" = some 0 := by kernel_rfl
theorem gTabType : (Tryd.prog.globals[0]?).map (·.type) = some 65 := by kernel_rfl
theorem cellsTab : Tryd.prog.cellsOf 65 = 9 := by kernel_rfl
theorem cellsInt : Tryd.prog.cellsOf 2 = 1 := by kernel_rfl
theorem table {W : World} (h : laidMetH Tryd.prog Rows.fnOrdersRow.laid W) : UnitTab W := by
  have hT : Lib.TabIs Tryd.prog W "loop.example/g01132/impl.unitFactors" .i64 [2, 2, 2, 2, 3, 3, 5, 7, 11] :=
    Lib.tabIs_of_head (rest := []) gTab gTabType Tryd.underlying65 Tryd.underlying2 cellsInt cellsTab h
  intro i hi
  have hi' : i = 0 ∨ i = 1 ∨ i = 2 ∨ i = 3 ∨ i = 4 ∨ i = 5 ∨ i = 6 ∨ i = 7 ∨ i = 8 := by omega
  rcases hi' with rfl | rfl | rfl | rfl | rfl | rfl | rfl | rfl | rfl
  · exact hT.cell gTab 0 (by decide)
  · exact hT.cell gTab 1 (by decide)
  · exact hT.cell gTab 2 (by decide)
  · exact hT.cell gTab 3 (by decide)
  · exact hT.cell gTab 4 (by decide)
  · exact hT.cell gTab 5 (by decide)
  · exact hT.cell gTab 6 (by decide)
  · exact hT.cell gTab 7 (by decide)
  · exact hT.cell gTab 8 (by decide)
set_option maxHeartbeats 8000000 in
set_option maxRecDepth 100000 in
theorem walk (a0 : Option Addr) (n0 c0 : Nat) (xs0 : List Int)  (w : World) (r0 : RdB w a0 n0 xs0) (hT : UnitTab w) (hG : 0 < w.heap.size) :
    Calls Tryd.prog 3 #[.slice a0 n0 c0] w fun e w' => e = .returned (.bool true) ∧ Below w.heap.size w w' := by
  have HT := Lib.hid hT
  clear hT
  by_cases hn0 : n0 ≤ 4096
  · have hd0 : decide (4096 < (n0 : Int)) = false := by simp; omega
    go_enter Tryd.func3, Tryd.ntmps3
    go_wp2_with (go_at_call 6; refine (big_any _ _ _ _).mono ?_; rintro e w' ⟨rfl, rfl⟩)
    refine (drawLog_any _ _ _ xs0 _ r0 hn0).mono ?_
    rintro e w1 ⟨a, hai, rfl, b1⟩
    clear hai
    have r1 := r0.below b1 (Nat.le_refl _)
    have B1 := Lib.hid b1
    have T1 := Lib.hid (unitTab_below HT.out b1 hG)
    have G1 := Lib.hid (Nat.lt_of_lt_of_le hG b1.size)
    clear b1 r0
    go_wp2_with fail
    refine (implLog_any _ _ T1.out).mono ?_
    rintro e w' ⟨rfl, rfl⟩
    go_wp2_with fail
    refine (specLog_any _ _).mono ?_
    rintro e w2 ⟨rfl, b2⟩
    have r2 := r1.below b2 (Nat.le_refl _)
    have B2 := Lib.hid (B1.out.trans (b2.mono B1.out.size))
    have T2 := Lib.hid (unitTab_below T1.out b2 G1.out)
    have G2 := Lib.hid (Nat.lt_of_lt_of_le G1.out b2.size)
    clear b2 r1 B1 T1 G1
    go_wp2_with fail
    refine (implOrd_any _ _ T2.out).mono ?_
    rintro e w' ⟨rfl, rfl⟩
    go_wp2_with fail
    refine (specOrd_any _ _).mono ?_
    rintro e w3 ⟨rfl, b3⟩
    have r3 := r2.below b3 (Nat.le_refl _)
    have B3 := Lib.hid (B2.out.trans (b3.mono B2.out.size))
    have T3 := Lib.hid (unitTab_below T2.out b3 G2.out)
    have G3 := Lib.hid (Nat.lt_of_lt_of_le G2.out b3.size)
    clear b3 r2 B2 T2 G2
    have t1 : (cLog a != cLog a) = false := by simp
    have t2 : (fLog a != fLog a) = false := by simp
    have t3 : (fOrd a != fOrd a) = false := by simp
    go_wp2_with (go_at_call 12; refine (implPrim_any _).mono ?_; rintro e w' ⟨rfl, rfl⟩)
    refine (specPrim_any _).mono ?_
    rintro e w4 ⟨rfl, b4⟩
    have r4 := r3.below b4 (Nat.le_refl _)
    have B4 := Lib.hid (B3.out.trans (b4.mono B3.out.size))
    have T4 := Lib.hid (unitTab_below T3.out b4 G3.out)
    have G4 := Lib.hid (Nat.lt_of_lt_of_le G3.out b4.size)
    clear b4 r3 B3 T3 G3 t2 t3
    go_wp2_with fail
    refine (drawRoot_any _ _ _ xs0 _ r4 hn0).mono ?_
    rintro e w5 ⟨n, hni, rfl, b5⟩
    clear hni
    have r5 := r4.below b5 (Nat.le_refl _)
    have B5 := Lib.hid (B4.out.trans (b5.mono B4.out.size))
    have T5 := Lib.hid (unitTab_below T4.out b5 G4.out)
    have G5 := Lib.hid (Nat.lt_of_lt_of_le G4.out b5.size)
    clear b5 r4 B4 T4 G4
    go_wp2_with (go_at_call 15; refine (implRoot_any _ _).mono ?_; rintro e w' ⟨rfl, rfl⟩)
    refine (specRoot_any _ _).mono ?_
    rintro e w6 ⟨rfl, b6⟩
    have r6 := r5.below b6 (Nat.le_refl _)
    have B6 := Lib.hid (B5.out.trans (b6.mono B5.out.size))
    have T6 := Lib.hid (unitTab_below T5.out b6 G5.out)
    have G6 := Lib.hid (Nat.lt_of_lt_of_le G5.out b6.size)
    clear b6 r5 B5 T5 G5
    have t4 : (cRoot n != cRoot n) = false := by simp
    have t5 : (fRoot n != fRoot n) = false := by simp
    rcases root_cases n with hr | ⟨_, hr, hr0, hr1, hr2, hr3⟩
    · have t6 : (cRoot n == 0) = false := by simp [hr]
      clear hr
      go_wp2_with fail
      refine (drawSqrt_any _ _ _ xs0 _ r6 hn0).mono ?_
      rintro e w7 ⟨b, hbi, rfl, b7⟩
      clear hbi
      have B7 := Lib.hid (B6.out.trans (b7.mono B6.out.size))
      have T7 := Lib.hid (unitTab_below T6.out b7 G6.out)
      clear b7 r6 B6 T6 G6
      have t9 : (cSqrt b != cSqrt b) = false := by simp
      have t10 : (fSqrt b != fSqrt b) = false := by simp
      rcases sqrt_cases b with ⟨_, s1, s2, _⟩ | ⟨q0, q1, s1, s2, s3, s4, s5, s6, s7⟩ | ⟨q0, q1, s1, s2, s3, s4, s5, s6⟩
      · have u1 : (cSqrt b == 0) = false := by simp [s1]
        have u2 : (cSqrt b == 4) = false := by simp [s1]
        clear s1 s2
        by_cases hc : cLog a = 0
        · have v1 : (cLog a != 0) = false := by simp [hc]
          obtain ⟨a0', a1', k0, k1, o0, o1, p1, p2, p3, p4⟩ := orders_end hc
          have P4 := Lib.hid p4
          obtain ⟨ko0, ko1⟩ := mul_bd (fLog a) (fOrd a) 55440 55440 k0 (by omega) (by omega) o1
          have v2 : (fLog a * fOrd a % 55440 != 0) = false := by simp [p3]
          clear hc p3 p4
          go_wp2_with (first | (go_at_call 18; refine (implSqrt_any _ _ T7.out).mono ?_; rintro e w' ⟨rfl, rfl⟩) | (go_at_call 19; refine (specSqrt_any _ _).mono ?_; rintro e w' ⟨rfl, rfl⟩) | (go_at_call 8; refine (implLog_any _ _ T7.out).mono ?_; rintro e w' ⟨rfl, rfl⟩) | (go_at_call 21; refine (implPow_any _ _ _).mono ?_; rintro e w' ⟨rfl, rfl⟩) | (go_at_call 20; refine (mod5_any _ _).mono ?_; rintro e w' ⟨rfl, rfl⟩))
          have hcl := primes_cell w7 2
          have hB : Below w7.heap.size w7 (w7.alloc (.cells #[.int .i64 2, .int .i64 3, .int .i64 5, .int .i64 7, .int .i64 11] 2)) := (Below.refl _ _).alloc (Nat.le_refl _) _
          generalize w7.alloc (.cells #[.int .i64 2, .int .i64 3, .int .i64 5, .int .i64 7, .int .i64 11] 2) = wo at *
          have HC := Lib.hid hcl
          have HB := Lib.hid (B7.out.trans (hB.mono B7.out.size))
          clear hcl hB
          go_loop [30] (fun i => ∃ j : Nat, j ≤ 5 ∧ i = .int .i64 j) (fun i => 5 - (intOf i).toNat)
          case atStart => exact ⟨0, by omega, rfl⟩
          case round =>
            obtain ⟨j, hj, rfl⟩ := hrel
            by_cases hlt : j < 5
            · have hcell := HC.out j hlt
              have hpp := primeAt_prime j
              obtain ⟨hp1, hp2⟩ := primeAt_bd j
              generalize primeAt j = p at *
              have P5 := Lib.hid (P4.out p hpp)
              clear hpp
              have z0 : 0 ≤ fOrd a / (p : Int) := Int.ediv_nonneg (by omega) (by omega)
              have z1 : fOrd a / (p : Int) ≤ 55440 := Int.le_trans (Int.ediv_le_self _ (by omega)) o1
              obtain ⟨kd0, kd1⟩ := mul_bd (fLog a) (fOrd a / (p : Int)) 55440 55440 k0 (by omega) z0 z1
              by_cases hdv : fOrd a % (p : Int) = 0
              · have hx : (fOrd a % (p : Int) == 0) = true := by simp [hdv]
                have hy : (fLog a * (fOrd a / (p : Int)) % 55440 == 0) = false := by simp; exact P5.out hdv
                clear hdv
                go_wp2_with fail
                go_round
                case rel => exact ⟨j + 1, by omega, by go_num⟩
                case measure => simp [intOf]; omega
              · have hx : (fOrd a % (p : Int) == 0) = false := by simp [hdv]
                clear hdv
                go_wp2_with fail
                go_round
                case rel => exact ⟨j + 1, by omega, by go_num⟩
                case measure => simp [intOf]; omega
            · obtain rfl : j = 5 := by omega
              go_wp2_with fail
              go_ret
              exact ⟨rfl, HB.out⟩
        · have v1 : (cLog a != 0) = true := by simp [hc]
          clear hc
          go_wp2_with (first | (go_at_call 18; refine (implSqrt_any _ _ T7.out).mono ?_; rintro e w' ⟨rfl, rfl⟩) | (go_at_call 19; refine (specSqrt_any _ _).mono ?_; rintro e w' ⟨rfl, rfl⟩) | (go_at_call 8; refine (implLog_any _ _ T7.out).mono ?_; rintro e w' ⟨rfl, rfl⟩) | (go_at_call 20; refine (mod5_any _ _).mono ?_; rintro e w' ⟨rfl, rfl⟩))
          go_ret
          exact ⟨rfl, B7.out⟩
      · have u1 : (cSqrt b == 0) = true := by simp [s1]
        have u3 : (fSqrt b * fSqrt b % 55441 != b) = false := by simp [s4]
        obtain ⟨m0, m1⟩ := mul_bd (fSqrt b) (fSqrt b) 27720 27720 s2 s3 s2 s3
        clear s1 s4
        rcases s5 with s5 | ⟨s5, s8⟩
        · have u4 : (cLog b == 5) = true := by simp [s5]
          clear s5
          by_cases hc : cLog a = 0
          · have v1 : (cLog a != 0) = false := by simp [hc]
            obtain ⟨a0', a1', k0, k1, o0, o1, p1, p2, p3, p4⟩ := orders_end hc
            have P4 := Lib.hid p4
            obtain ⟨ko0, ko1⟩ := mul_bd (fLog a) (fOrd a) 55440 55440 k0 (by omega) (by omega) o1
            have v2 : (fLog a * fOrd a % 55440 != 0) = false := by simp [p3]
            clear hc p3 p4
            go_wp2_with (first | (go_at_call 18; refine (implSqrt_any _ _ T7.out).mono ?_; rintro e w' ⟨rfl, rfl⟩) | (go_at_call 19; refine (specSqrt_any _ _).mono ?_; rintro e w' ⟨rfl, rfl⟩) | (go_at_call 8; refine (implLog_any _ _ T7.out).mono ?_; rintro e w' ⟨rfl, rfl⟩) | (go_at_call 21; refine (implPow_any _ _ _).mono ?_; rintro e w' ⟨rfl, rfl⟩) | (go_at_call 20; refine (mod5_any _ _).mono ?_; rintro e w' ⟨rfl, rfl⟩))
            have hcl := primes_cell w7 2
            have hB : Below w7.heap.size w7 (w7.alloc (.cells #[.int .i64 2, .int .i64 3, .int .i64 5, .int .i64 7, .int .i64 11] 2)) := (Below.refl _ _).alloc (Nat.le_refl _) _
            generalize w7.alloc (.cells #[.int .i64 2, .int .i64 3, .int .i64 5, .int .i64 7, .int .i64 11] 2) = wo at *
            have HC := Lib.hid hcl
            have HB := Lib.hid (B7.out.trans (hB.mono B7.out.size))
            clear hcl hB
            go_loop [30] (fun i => ∃ j : Nat, j ≤ 5 ∧ i = .int .i64 j) (fun i => 5 - (intOf i).toNat)
            case atStart => exact ⟨0, by omega, rfl⟩
            case round =>
              obtain ⟨j, hj, rfl⟩ := hrel
              by_cases hlt : j < 5
              · have hcell := HC.out j hlt
                have hpp := primeAt_prime j
                obtain ⟨hp1, hp2⟩ := primeAt_bd j
                generalize primeAt j = p at *
                have P5 := Lib.hid (P4.out p hpp)
                clear hpp
                have z0 : 0 ≤ fOrd a / (p : Int) := Int.ediv_nonneg (by omega) (by omega)
                have z1 : fOrd a / (p : Int) ≤ 55440 := Int.le_trans (Int.ediv_le_self _ (by omega)) o1
                obtain ⟨kd0, kd1⟩ := mul_bd (fLog a) (fOrd a / (p : Int)) 55440 55440 k0 (by omega) z0 z1
                by_cases hdv : fOrd a % (p : Int) = 0
                · have hx : (fOrd a % (p : Int) == 0) = true := by simp [hdv]
                  have hy : (fLog a * (fOrd a / (p : Int)) % 55440 == 0) = false := by simp; exact P5.out hdv
                  clear hdv
                  go_wp2_with fail
                  go_round
                  case rel => exact ⟨j + 1, by omega, by go_num⟩
                  case measure => simp [intOf]; omega
                · have hx : (fOrd a % (p : Int) == 0) = false := by simp [hdv]
                  clear hdv
                  go_wp2_with fail
                  go_round
                  case rel => exact ⟨j + 1, by omega, by go_num⟩
                  case measure => simp [intOf]; omega
              · obtain rfl : j = 5 := by omega
                go_wp2_with fail
                go_ret
                exact ⟨rfl, HB.out⟩
          · have v1 : (cLog a != 0) = true := by simp [hc]
            clear hc
            go_wp2_with (first | (go_at_call 18; refine (implSqrt_any _ _ T7.out).mono ?_; rintro e w' ⟨rfl, rfl⟩) | (go_at_call 19; refine (specSqrt_any _ _).mono ?_; rintro e w' ⟨rfl, rfl⟩) | (go_at_call 8; refine (implLog_any _ _ T7.out).mono ?_; rintro e w' ⟨rfl, rfl⟩) | (go_at_call 20; refine (mod5_any _ _).mono ?_; rintro e w' ⟨rfl, rfl⟩))
            go_ret
            exact ⟨rfl, B7.out⟩
        · have u4 : (cLog b == 5) = false := by simp [s5]
          have u5 : (cLog b == 0) = true := by simp [s5]
          have u6 : (fLog b % 2 == 0) = true := by simp [s8]
          clear s5 s8
          by_cases hc : cLog a = 0
          · have v1 : (cLog a != 0) = false := by simp [hc]
            obtain ⟨a0', a1', k0, k1, o0, o1, p1, p2, p3, p4⟩ := orders_end hc
            have P4 := Lib.hid p4
            obtain ⟨ko0, ko1⟩ := mul_bd (fLog a) (fOrd a) 55440 55440 k0 (by omega) (by omega) o1
            have v2 : (fLog a * fOrd a % 55440 != 0) = false := by simp [p3]
            clear hc p3 p4
            go_wp2_with (first | (go_at_call 18; refine (implSqrt_any _ _ T7.out).mono ?_; rintro e w' ⟨rfl, rfl⟩) | (go_at_call 19; refine (specSqrt_any _ _).mono ?_; rintro e w' ⟨rfl, rfl⟩) | (go_at_call 8; refine (implLog_any _ _ T7.out).mono ?_; rintro e w' ⟨rfl, rfl⟩) | (go_at_call 21; refine (implPow_any _ _ _).mono ?_; rintro e w' ⟨rfl, rfl⟩) | (go_at_call 20; refine (mod5_any _ _).mono ?_; rintro e w' ⟨rfl, rfl⟩))
            have hcl := primes_cell w7 2
            have hB : Below w7.heap.size w7 (w7.alloc (.cells #[.int .i64 2, .int .i64 3, .int .i64 5, .int .i64 7, .int .i64 11] 2)) := (Below.refl _ _).alloc (Nat.le_refl _) _
            generalize w7.alloc (.cells #[.int .i64 2, .int .i64 3, .int .i64 5, .int .i64 7, .int .i64 11] 2) = wo at *
            have HC := Lib.hid hcl
            have HB := Lib.hid (B7.out.trans (hB.mono B7.out.size))
            clear hcl hB
            go_loop [30] (fun i => ∃ j : Nat, j ≤ 5 ∧ i = .int .i64 j) (fun i => 5 - (intOf i).toNat)
            case atStart => exact ⟨0, by omega, rfl⟩
            case round =>
              obtain ⟨j, hj, rfl⟩ := hrel
              by_cases hlt : j < 5
              · have hcell := HC.out j hlt
                have hpp := primeAt_prime j
                obtain ⟨hp1, hp2⟩ := primeAt_bd j
                generalize primeAt j = p at *
                have P5 := Lib.hid (P4.out p hpp)
                clear hpp
                have z0 : 0 ≤ fOrd a / (p : Int) := Int.ediv_nonneg (by omega) (by omega)
                have z1 : fOrd a / (p : Int) ≤ 55440 := Int.le_trans (Int.ediv_le_self _ (by omega)) o1
                obtain ⟨kd0, kd1⟩ := mul_bd (fLog a) (fOrd a / (p : Int)) 55440 55440 k0 (by omega) z0 z1
                by_cases hdv : fOrd a % (p : Int) = 0
                · have hx : (fOrd a % (p : Int) == 0) = true := by simp [hdv]
                  have hy : (fLog a * (fOrd a / (p : Int)) % 55440 == 0) = false := by simp; exact P5.out hdv
                  clear hdv
                  go_wp2_with fail
                  go_round
                  case rel => exact ⟨j + 1, by omega, by go_num⟩
                  case measure => simp [intOf]; omega
                · have hx : (fOrd a % (p : Int) == 0) = false := by simp [hdv]
                  clear hdv
                  go_wp2_with fail
                  go_round
                  case rel => exact ⟨j + 1, by omega, by go_num⟩
                  case measure => simp [intOf]; omega
              · obtain rfl : j = 5 := by omega
                go_wp2_with fail
                go_ret
                exact ⟨rfl, HB.out⟩
          · have v1 : (cLog a != 0) = true := by simp [hc]
            clear hc
            go_wp2_with (first | (go_at_call 18; refine (implSqrt_any _ _ T7.out).mono ?_; rintro e w' ⟨rfl, rfl⟩) | (go_at_call 19; refine (specSqrt_any _ _).mono ?_; rintro e w' ⟨rfl, rfl⟩) | (go_at_call 8; refine (implLog_any _ _ T7.out).mono ?_; rintro e w' ⟨rfl, rfl⟩) | (go_at_call 20; refine (mod5_any _ _).mono ?_; rintro e w' ⟨rfl, rfl⟩))
            go_ret
            exact ⟨rfl, B7.out⟩
      · have u1 : (cSqrt b == 0) = false := by simp [s1]
        have u2 : (cSqrt b == 4) = true := by simp [s1]
        have u4 : (cLog b == 5) = false := by simp [s3]
        have u5 : (cLog b == 0) = true := by simp [s3]
        have u6 : (fLog b % 2 == 0) = false := by simp [s4]
        clear s1 s2 s3 s4
        by_cases hc : cLog a = 0
        · have v1 : (cLog a != 0) = false := by simp [hc]
          obtain ⟨a0', a1', k0, k1, o0, o1, p1, p2, p3, p4⟩ := orders_end hc
          have P4 := Lib.hid p4
          obtain ⟨ko0, ko1⟩ := mul_bd (fLog a) (fOrd a) 55440 55440 k0 (by omega) (by omega) o1
          have v2 : (fLog a * fOrd a % 55440 != 0) = false := by simp [p3]
          clear hc p3 p4
          go_wp2_with (first | (go_at_call 18; refine (implSqrt_any _ _ T7.out).mono ?_; rintro e w' ⟨rfl, rfl⟩) | (go_at_call 19; refine (specSqrt_any _ _).mono ?_; rintro e w' ⟨rfl, rfl⟩) | (go_at_call 8; refine (implLog_any _ _ T7.out).mono ?_; rintro e w' ⟨rfl, rfl⟩) | (go_at_call 21; refine (implPow_any _ _ _).mono ?_; rintro e w' ⟨rfl, rfl⟩) | (go_at_call 20; refine (mod5_any _ _).mono ?_; rintro e w' ⟨rfl, rfl⟩))
          have hcl := primes_cell w7 2
          have hB : Below w7.heap.size w7 (w7.alloc (.cells #[.int .i64 2, .int .i64 3, .int .i64 5, .int .i64 7, .int .i64 11] 2)) := (Below.refl _ _).alloc (Nat.le_refl _) _
          generalize w7.alloc (.cells #[.int .i64 2, .int .i64 3, .int .i64 5, .int .i64 7, .int .i64 11] 2) = wo at *
          have HC := Lib.hid hcl
          have HB := Lib.hid (B7.out.trans (hB.mono B7.out.size))
          clear hcl hB
          go_loop [30] (fun i => ∃ j : Nat, j ≤ 5 ∧ i = .int .i64 j) (fun i => 5 - (intOf i).toNat)
          case atStart => exact ⟨0, by omega, rfl⟩
          case round =>
            obtain ⟨j, hj, rfl⟩ := hrel
            by_cases hlt : j < 5
            · have hcell := HC.out j hlt
              have hpp := primeAt_prime j
              obtain ⟨hp1, hp2⟩ := primeAt_bd j
              generalize primeAt j = p at *
              have P5 := Lib.hid (P4.out p hpp)
              clear hpp
              have z0 : 0 ≤ fOrd a / (p : Int) := Int.ediv_nonneg (by omega) (by omega)
              have z1 : fOrd a / (p : Int) ≤ 55440 := Int.le_trans (Int.ediv_le_self _ (by omega)) o1
              obtain ⟨kd0, kd1⟩ := mul_bd (fLog a) (fOrd a / (p : Int)) 55440 55440 k0 (by omega) z0 z1
              by_cases hdv : fOrd a % (p : Int) = 0
              · have hx : (fOrd a % (p : Int) == 0) = true := by simp [hdv]
                have hy : (fLog a * (fOrd a / (p : Int)) % 55440 == 0) = false := by simp; exact P5.out hdv
                clear hdv
                go_wp2_with fail
                go_round
                case rel => exact ⟨j + 1, by omega, by go_num⟩
                case measure => simp [intOf]; omega
              · have hx : (fOrd a % (p : Int) == 0) = false := by simp [hdv]
                clear hdv
                go_wp2_with fail
                go_round
                case rel => exact ⟨j + 1, by omega, by go_num⟩
                case measure => simp [intOf]; omega
            · obtain rfl : j = 5 := by omega
              go_wp2_with fail
              go_ret
              exact ⟨rfl, HB.out⟩
        · have v1 : (cLog a != 0) = true := by simp [hc]
          clear hc
          go_wp2_with (first | (go_at_call 18; refine (implSqrt_any _ _ T7.out).mono ?_; rintro e w' ⟨rfl, rfl⟩) | (go_at_call 19; refine (specSqrt_any _ _).mono ?_; rintro e w' ⟨rfl, rfl⟩) | (go_at_call 8; refine (implLog_any _ _ T7.out).mono ?_; rintro e w' ⟨rfl, rfl⟩) | (go_at_call 20; refine (mod5_any _ _).mono ?_; rintro e w' ⟨rfl, rfl⟩))
          go_ret
          exact ⟨rfl, B7.out⟩
    · have t6 : (cRoot n == 0) = true := by simp [hr]
      have t7 : (cLog (fRoot n) != 0) = false := by simp [hr3]
      have t8 : (fOrd (fRoot n) != n) = false := by simp [hr2]
      clear hr hr0 hr1 hr2 hr3
      go_wp2_with fail
      refine (implOrd_any _ _ T6.out).mono ?_
      rintro e w' ⟨rfl, rfl⟩
      go_wp2_with fail
      refine (drawSqrt_any _ _ _ xs0 _ r6 hn0).mono ?_
      rintro e w7 ⟨b, hbi, rfl, b7⟩
      clear hbi
      have B7 := Lib.hid (B6.out.trans (b7.mono B6.out.size))
      have T7 := Lib.hid (unitTab_below T6.out b7 G6.out)
      clear b7 r6 B6 T6 G6
      have t9 : (cSqrt b != cSqrt b) = false := by simp
      have t10 : (fSqrt b != fSqrt b) = false := by simp
      rcases sqrt_cases b with ⟨_, s1, s2, _⟩ | ⟨q0, q1, s1, s2, s3, s4, s5, s6, s7⟩ | ⟨q0, q1, s1, s2, s3, s4, s5, s6⟩
      · have u1 : (cSqrt b == 0) = false := by simp [s1]
        have u2 : (cSqrt b == 4) = false := by simp [s1]
        clear s1 s2
        by_cases hc : cLog a = 0
        · have v1 : (cLog a != 0) = false := by simp [hc]
          obtain ⟨a0', a1', k0, k1, o0, o1, p1, p2, p3, p4⟩ := orders_end hc
          have P4 := Lib.hid p4
          obtain ⟨ko0, ko1⟩ := mul_bd (fLog a) (fOrd a) 55440 55440 k0 (by omega) (by omega) o1
          have v2 : (fLog a * fOrd a % 55440 != 0) = false := by simp [p3]
          clear hc p3 p4
          go_wp2_with (first | (go_at_call 18; refine (implSqrt_any _ _ T7.out).mono ?_; rintro e w' ⟨rfl, rfl⟩) | (go_at_call 19; refine (specSqrt_any _ _).mono ?_; rintro e w' ⟨rfl, rfl⟩) | (go_at_call 8; refine (implLog_any _ _ T7.out).mono ?_; rintro e w' ⟨rfl, rfl⟩) | (go_at_call 21; refine (implPow_any _ _ _).mono ?_; rintro e w' ⟨rfl, rfl⟩) | (go_at_call 20; refine (mod5_any _ _).mono ?_; rintro e w' ⟨rfl, rfl⟩))
          have hcl := primes_cell w7 2
          have hB : Below w7.heap.size w7 (w7.alloc (.cells #[.int .i64 2, .int .i64 3, .int .i64 5, .int .i64 7, .int .i64 11] 2)) := (Below.refl _ _).alloc (Nat.le_refl _) _
          generalize w7.alloc (.cells #[.int .i64 2, .int .i64 3, .int .i64 5, .int .i64 7, .int .i64 11] 2) = wo at *
          have HC := Lib.hid hcl
          have HB := Lib.hid (B7.out.trans (hB.mono B7.out.size))
          clear hcl hB
          go_loop [30] (fun i => ∃ j : Nat, j ≤ 5 ∧ i = .int .i64 j) (fun i => 5 - (intOf i).toNat)
          case atStart => exact ⟨0, by omega, rfl⟩
          case round =>
            obtain ⟨j, hj, rfl⟩ := hrel
            by_cases hlt : j < 5
            · have hcell := HC.out j hlt
              have hpp := primeAt_prime j
              obtain ⟨hp1, hp2⟩ := primeAt_bd j
              generalize primeAt j = p at *
              have P5 := Lib.hid (P4.out p hpp)
              clear hpp
              have z0 : 0 ≤ fOrd a / (p : Int) := Int.ediv_nonneg (by omega) (by omega)
              have z1 : fOrd a / (p : Int) ≤ 55440 := Int.le_trans (Int.ediv_le_self _ (by omega)) o1
              obtain ⟨kd0, kd1⟩ := mul_bd (fLog a) (fOrd a / (p : Int)) 55440 55440 k0 (by omega) z0 z1
              by_cases hdv : fOrd a % (p : Int) = 0
              · have hx : (fOrd a % (p : Int) == 0) = true := by simp [hdv]
                have hy : (fLog a * (fOrd a / (p : Int)) % 55440 == 0) = false := by simp; exact P5.out hdv
                clear hdv
                go_wp2_with fail
                go_round
                case rel => exact ⟨j + 1, by omega, by go_num⟩
                case measure => simp [intOf]; omega
              · have hx : (fOrd a % (p : Int) == 0) = false := by simp [hdv]
                clear hdv
                go_wp2_with fail
                go_round
                case rel => exact ⟨j + 1, by omega, by go_num⟩
                case measure => simp [intOf]; omega
            · obtain rfl : j = 5 := by omega
              go_wp2_with fail
              go_ret
              exact ⟨rfl, HB.out⟩
        · have v1 : (cLog a != 0) = true := by simp [hc]
          clear hc
          go_wp2_with (first | (go_at_call 18; refine (implSqrt_any _ _ T7.out).mono ?_; rintro e w' ⟨rfl, rfl⟩) | (go_at_call 19; refine (specSqrt_any _ _).mono ?_; rintro e w' ⟨rfl, rfl⟩) | (go_at_call 8; refine (implLog_any _ _ T7.out).mono ?_; rintro e w' ⟨rfl, rfl⟩) | (go_at_call 20; refine (mod5_any _ _).mono ?_; rintro e w' ⟨rfl, rfl⟩))
          go_ret
          exact ⟨rfl, B7.out⟩
      · have u1 : (cSqrt b == 0) = true := by simp [s1]
        have u3 : (fSqrt b * fSqrt b % 55441 != b) = false := by simp [s4]
        obtain ⟨m0, m1⟩ := mul_bd (fSqrt b) (fSqrt b) 27720 27720 s2 s3 s2 s3
        clear s1 s4
        rcases s5 with s5 | ⟨s5, s8⟩
        · have u4 : (cLog b == 5) = true := by simp [s5]
          clear s5
          by_cases hc : cLog a = 0
          · have v1 : (cLog a != 0) = false := by simp [hc]
            obtain ⟨a0', a1', k0, k1, o0, o1, p1, p2, p3, p4⟩ := orders_end hc
            have P4 := Lib.hid p4
            obtain ⟨ko0, ko1⟩ := mul_bd (fLog a) (fOrd a) 55440 55440 k0 (by omega) (by omega) o1
            have v2 : (fLog a * fOrd a % 55440 != 0) = false := by simp [p3]
            clear hc p3 p4
            go_wp2_with (first | (go_at_call 18; refine (implSqrt_any _ _ T7.out).mono ?_; rintro e w' ⟨rfl, rfl⟩) | (go_at_call 19; refine (specSqrt_any _ _).mono ?_; rintro e w' ⟨rfl, rfl⟩) | (go_at_call 8; refine (implLog_any _ _ T7.out).mono ?_; rintro e w' ⟨rfl, rfl⟩) | (go_at_call 21; refine (implPow_any _ _ _).mono ?_; rintro e w' ⟨rfl, rfl⟩) | (go_at_call 20; refine (mod5_any _ _).mono ?_; rintro e w' ⟨rfl, rfl⟩))
            have hcl := primes_cell w7 2
            have hB : Below w7.heap.size w7 (w7.alloc (.cells #[.int .i64 2, .int .i64 3, .int .i64 5, .int .i64 7, .int .i64 11] 2)) := (Below.refl _ _).alloc (Nat.le_refl _) _
            generalize w7.alloc (.cells #[.int .i64 2, .int .i64 3, .int .i64 5, .int .i64 7, .int .i64 11] 2) = wo at *
            have HC := Lib.hid hcl
            have HB := Lib.hid (B7.out.trans (hB.mono B7.out.size))
            clear hcl hB
            go_loop [30] (fun i => ∃ j : Nat, j ≤ 5 ∧ i = .int .i64 j) (fun i => 5 - (intOf i).toNat)
            case atStart => exact ⟨0, by omega, rfl⟩
            case round =>
              obtain ⟨j, hj, rfl⟩ := hrel
              by_cases hlt : j < 5
              · have hcell := HC.out j hlt
                have hpp := primeAt_prime j
                obtain ⟨hp1, hp2⟩ := primeAt_bd j
                generalize primeAt j = p at *
                have P5 := Lib.hid (P4.out p hpp)
                clear hpp
                have z0 : 0 ≤ fOrd a / (p : Int) := Int.ediv_nonneg (by omega) (by omega)
                have z1 : fOrd a / (p : Int) ≤ 55440 := Int.le_trans (Int.ediv_le_self _ (by omega)) o1
                obtain ⟨kd0, kd1⟩ := mul_bd (fLog a) (fOrd a / (p : Int)) 55440 55440 k0 (by omega) z0 z1
                by_cases hdv : fOrd a % (p : Int) = 0
                · have hx : (fOrd a % (p : Int) == 0) = true := by simp [hdv]
                  have hy : (fLog a * (fOrd a / (p : Int)) % 55440 == 0) = false := by simp; exact P5.out hdv
                  clear hdv
                  go_wp2_with fail
                  go_round
                  case rel => exact ⟨j + 1, by omega, by go_num⟩
                  case measure => simp [intOf]; omega
                · have hx : (fOrd a % (p : Int) == 0) = false := by simp [hdv]
                  clear hdv
                  go_wp2_with fail
                  go_round
                  case rel => exact ⟨j + 1, by omega, by go_num⟩
                  case measure => simp [intOf]; omega
              · obtain rfl : j = 5 := by omega
                go_wp2_with fail
                go_ret
                exact ⟨rfl, HB.out⟩
          · have v1 : (cLog a != 0) = true := by simp [hc]
            clear hc
            go_wp2_with (first | (go_at_call 18; refine (implSqrt_any _ _ T7.out).mono ?_; rintro e w' ⟨rfl, rfl⟩) | (go_at_call 19; refine (specSqrt_any _ _).mono ?_; rintro e w' ⟨rfl, rfl⟩) | (go_at_call 8; refine (implLog_any _ _ T7.out).mono ?_; rintro e w' ⟨rfl, rfl⟩) | (go_at_call 20; refine (mod5_any _ _).mono ?_; rintro e w' ⟨rfl, rfl⟩))
            go_ret
            exact ⟨rfl, B7.out⟩
        · have u4 : (cLog b == 5) = false := by simp [s5]
          have u5 : (cLog b == 0) = true := by simp [s5]
          have u6 : (fLog b % 2 == 0) = true := by simp [s8]
          clear s5 s8
          by_cases hc : cLog a = 0
          · have v1 : (cLog a != 0) = false := by simp [hc]
            obtain ⟨a0', a1', k0, k1, o0, o1, p1, p2, p3, p4⟩ := orders_end hc
            have P4 := Lib.hid p4
            obtain ⟨ko0, ko1⟩ := mul_bd (fLog a) (fOrd a) 55440 55440 k0 (by omega) (by omega) o1
            have v2 : (fLog a * fOrd a % 55440 != 0) = false := by simp [p3]
            clear hc p3 p4
            go_wp2_with (first | (go_at_call 18; refine (implSqrt_any _ _ T7.out).mono ?_; rintro e w' ⟨rfl, rfl⟩) | (go_at_call 19; refine (specSqrt_any _ _).mono ?_; rintro e w' ⟨rfl, rfl⟩) | (go_at_call 8; refine (implLog_any _ _ T7.out).mono ?_; rintro e w' ⟨rfl, rfl⟩) | (go_at_call 21; refine (implPow_any _ _ _).mono ?_; rintro e w' ⟨rfl, rfl⟩) | (go_at_call 20; refine (mod5_any _ _).mono ?_; rintro e w' ⟨rfl, rfl⟩))
            have hcl := primes_cell w7 2
            have hB : Below w7.heap.size w7 (w7.alloc (.cells #[.int .i64 2, .int .i64 3, .int .i64 5, .int .i64 7, .int .i64 11] 2)) := (Below.refl _ _).alloc (Nat.le_refl _) _
            generalize w7.alloc (.cells #[.int .i64 2, .int .i64 3, .int .i64 5, .int .i64 7, .int .i64 11] 2) = wo at *
            have HC := Lib.hid hcl
            have HB := Lib.hid (B7.out.trans (hB.mono B7.out.size))
            clear hcl hB
            go_loop [30] (fun i => ∃ j : Nat, j ≤ 5 ∧ i = .int .i64 j) (fun i => 5 - (intOf i).toNat)
            case atStart => exact ⟨0, by omega, rfl⟩
            case round =>
              obtain ⟨j, hj, rfl⟩ := hrel
              by_cases hlt : j < 5
              · have hcell := HC.out j hlt
                have hpp := primeAt_prime j
                obtain ⟨hp1, hp2⟩ := primeAt_bd j
                generalize primeAt j = p at *
                have P5 := Lib.hid (P4.out p hpp)
                clear hpp
                have z0 : 0 ≤ fOrd a / (p : Int) := Int.ediv_nonneg (by omega) (by omega)
                have z1 : fOrd a / (p : Int) ≤ 55440 := Int.le_trans (Int.ediv_le_self _ (by omega)) o1
                obtain ⟨kd0, kd1⟩ := mul_bd (fLog a) (fOrd a / (p : Int)) 55440 55440 k0 (by omega) z0 z1
                by_cases hdv : fOrd a % (p : Int) = 0
                · have hx : (fOrd a % (p : Int) == 0) = true := by simp [hdv]
                  have hy : (fLog a * (fOrd a / (p : Int)) % 55440 == 0) = false := by simp; exact P5.out hdv
                  clear hdv
                  go_wp2_with fail
                  go_round
                  case rel => exact ⟨j + 1, by omega, by go_num⟩
                  case measure => simp [intOf]; omega
                · have hx : (fOrd a % (p : Int) == 0) = false := by simp [hdv]
                  clear hdv
                  go_wp2_with fail
                  go_round
                  case rel => exact ⟨j + 1, by omega, by go_num⟩
                  case measure => simp [intOf]; omega
              · obtain rfl : j = 5 := by omega
                go_wp2_with fail
                go_ret
                exact ⟨rfl, HB.out⟩
          · have v1 : (cLog a != 0) = true := by simp [hc]
            clear hc
            go_wp2_with (first | (go_at_call 18; refine (implSqrt_any _ _ T7.out).mono ?_; rintro e w' ⟨rfl, rfl⟩) | (go_at_call 19; refine (specSqrt_any _ _).mono ?_; rintro e w' ⟨rfl, rfl⟩) | (go_at_call 8; refine (implLog_any _ _ T7.out).mono ?_; rintro e w' ⟨rfl, rfl⟩) | (go_at_call 20; refine (mod5_any _ _).mono ?_; rintro e w' ⟨rfl, rfl⟩))
            go_ret
            exact ⟨rfl, B7.out⟩
      · have u1 : (cSqrt b == 0) = false := by simp [s1]
        have u2 : (cSqrt b == 4) = true := by simp [s1]
        have u4 : (cLog b == 5) = false := by simp [s3]
        have u5 : (cLog b == 0) = true := by simp [s3]
        have u6 : (fLog b % 2 == 0) = false := by simp [s4]
        clear s1 s2 s3 s4
        by_cases hc : cLog a = 0
        · have v1 : (cLog a != 0) = false := by simp [hc]
          obtain ⟨a0', a1', k0, k1, o0, o1, p1, p2, p3, p4⟩ := orders_end hc
          have P4 := Lib.hid p4
          obtain ⟨ko0, ko1⟩ := mul_bd (fLog a) (fOrd a) 55440 55440 k0 (by omega) (by omega) o1
          have v2 : (fLog a * fOrd a % 55440 != 0) = false := by simp [p3]
          clear hc p3 p4
          go_wp2_with (first | (go_at_call 18; refine (implSqrt_any _ _ T7.out).mono ?_; rintro e w' ⟨rfl, rfl⟩) | (go_at_call 19; refine (specSqrt_any _ _).mono ?_; rintro e w' ⟨rfl, rfl⟩) | (go_at_call 8; refine (implLog_any _ _ T7.out).mono ?_; rintro e w' ⟨rfl, rfl⟩) | (go_at_call 21; refine (implPow_any _ _ _).mono ?_; rintro e w' ⟨rfl, rfl⟩) | (go_at_call 20; refine (mod5_any _ _).mono ?_; rintro e w' ⟨rfl, rfl⟩))
          have hcl := primes_cell w7 2
          have hB : Below w7.heap.size w7 (w7.alloc (.cells #[.int .i64 2, .int .i64 3, .int .i64 5, .int .i64 7, .int .i64 11] 2)) := (Below.refl _ _).alloc (Nat.le_refl _) _
          generalize w7.alloc (.cells #[.int .i64 2, .int .i64 3, .int .i64 5, .int .i64 7, .int .i64 11] 2) = wo at *
          have HC := Lib.hid hcl
          have HB := Lib.hid (B7.out.trans (hB.mono B7.out.size))
          clear hcl hB
          go_loop [30] (fun i => ∃ j : Nat, j ≤ 5 ∧ i = .int .i64 j) (fun i => 5 - (intOf i).toNat)
          case atStart => exact ⟨0, by omega, rfl⟩
          case round =>
            obtain ⟨j, hj, rfl⟩ := hrel
            by_cases hlt : j < 5
            · have hcell := HC.out j hlt
              have hpp := primeAt_prime j
              obtain ⟨hp1, hp2⟩ := primeAt_bd j
              generalize primeAt j = p at *
              have P5 := Lib.hid (P4.out p hpp)
              clear hpp
              have z0 : 0 ≤ fOrd a / (p : Int) := Int.ediv_nonneg (by omega) (by omega)
              have z1 : fOrd a / (p : Int) ≤ 55440 := Int.le_trans (Int.ediv_le_self _ (by omega)) o1
              obtain ⟨kd0, kd1⟩ := mul_bd (fLog a) (fOrd a / (p : Int)) 55440 55440 k0 (by omega) z0 z1
              by_cases hdv : fOrd a % (p : Int) = 0
              · have hx : (fOrd a % (p : Int) == 0) = true := by simp [hdv]
                have hy : (fLog a * (fOrd a / (p : Int)) % 55440 == 0) = false := by simp; exact P5.out hdv
                clear hdv
                go_wp2_with fail
                go_round
                case rel => exact ⟨j + 1, by omega, by go_num⟩
                case measure => simp [intOf]; omega
              · have hx : (fOrd a % (p : Int) == 0) = false := by simp [hdv]
                clear hdv
                go_wp2_with fail
                go_round
                case rel => exact ⟨j + 1, by omega, by go_num⟩
                case measure => simp [intOf]; omega
            · obtain rfl : j = 5 := by omega
              go_wp2_with fail
              go_ret
              exact ⟨rfl, HB.out⟩
        · have v1 : (cLog a != 0) = true := by simp [hc]
          clear hc
          go_wp2_with (first | (go_at_call 18; refine (implSqrt_any _ _ T7.out).mono ?_; rintro e w' ⟨rfl, rfl⟩) | (go_at_call 19; refine (specSqrt_any _ _).mono ?_; rintro e w' ⟨rfl, rfl⟩) | (go_at_call 8; refine (implLog_any _ _ T7.out).mono ?_; rintro e w' ⟨rfl, rfl⟩) | (go_at_call 20; refine (mod5_any _ _).mono ?_; rintro e w' ⟨rfl, rfl⟩))
          go_ret
          exact ⟨rfl, B7.out⟩
  · have hd0 : decide (4096 < (n0 : Int)) = true := by simp; omega
    go_enter Tryd.func3, Tryd.ntmps3
    go_wp2_with (go_at_call 6; refine (big_any _ _ _ _).mono ?_; rintro e w' ⟨rfl, rfl⟩)
    go_ret
    exact ⟨rfl, Below.refl _ _⟩

set_option maxRecDepth 100000 in
theorem contract (H : Type) (enc : TypeId × Value → H) (W : World) (base : Nat) (args : Array Value) (ds gs : List (DataW H)) (before : List MemPlace)
    (hval : ∀ (j : Nat) t v, Tryd.f3.params[j]? = some t → args[j]? = some v → Value.okWide Tryd.prog W .any base t v)
    (hW : DataW.Whole enc Tryd.prog Tryd.f3.params.toList Rows.fnOrdersSpec.vars false W args.toList ds gs before) (hL : laidMetH Tryd.prog Rows.fnOrdersRow.laid W) :
    Calls Tryd.prog 3 args W fun e W' => ∃ v, e = .returned v ∧ Rows.fnOrdersSpec.post enc Tryd.prog Tryd.f3 false true false false W args v W' := by
  have hW' := hW
  obtain ⟨p, q, hA0, hV, rfl, hfz, hnd⟩ := hW
  have hA : DataW.TrodAll enc Tryd.prog W 0 (fun _ => true) true Tryd.f3.params.toList args.toList ds p := hA0
  rw [Tryd.params3] at hA hval
  obtain ⟨v0, vs0, d0, ds0, p0, q0, hargs, rfl, rfl, h0, r0⟩ := trodAll_cons hA
  obtain ⟨rfl, rfl, rfl⟩ := trodAll_nil r0
  obtain rfl : args = #[v0] := by cases args; simp_all
  have hV1 : DataW.TrodVars enc Tryd.prog W (fun _ => true) ["loop.example/g01132/impl.unitFactors"] gs q := hV
  obtain ⟨g, t, cs, fuel, dg, pg, rfl, hg, ht, hvar, hd, rfl⟩ := trodVars_one hV1
  obtain ⟨a0, n0, c0, rfl⟩ := okWide_slice Tryd.underlying22 (hval 0 22 v0 rfl rfl)
  obtain ⟨xs0, r0⟩ := RdB_of_trod h0
  clear hA0
  have hT := table hL
  have hG : 0 < W.heap.size := by
    have hc := hT 0 (by omega)
    by_cases hlt : 0 < W.heap.size
    · exact hlt
    · exfalso
      unfold World.cell? at hc
      rw [Array.getElem?_eq_none (by simpa using hlt)] at hc
      simp at hc
  refine (walk a0 n0 c0 xs0  W r0 hT hG).mono fun e W' ⟨he, hg'⟩ => ?_
  subst he
  refine ⟨_, rfl, _, _, _, [], (p0 ++ []), _, hW', ?_, ?_, Below.trodVars laidOut hg' (by kernel_rfl) hV1, hg'.frame _, fun h => by cases h⟩
  · exact (trodAll_cons_mk (shut_bool Tryd.underlying4 _) trodAll_mk0)
  · exact (trodAll_cons_mk (Below.trod laidOut (by kernel_rfl) (of_decide_eq_true (by kernel_rfl)) h0 hg' (fun x hx => hW'.lt x (by simp [hx]))) trodAll_mk0)

noncomputable def laidWorld (os : Os) : World :=
  { World.holding Tryd.prog os ⟨#[], #[], []⟩ with heap := (World.holding Tryd.prog os ⟨#[], #[], []⟩).heap.modify 0 fun
      | .cells _ t frozen => .cells #[.int .i64 2, .int .i64 2, .int .i64 2, .int .i64 2, .int .i64 3, .int .i64 3, .int .i64 5, .int .i64 7, .int .i64 11] t frozen
      | o => o }
theorem laid_met (os : Os) : laidMet Tryd.prog Rows.fnOrdersRow.laid ((laidWorld os).forCall (fun _ _ => 0) ⟨#[], #[.slice none 0 0], []⟩).memory :=
  laidMet_of_run' 8 (by kernel_rfl) (by kernel_rfl)
theorem reads (os : Os) {H : Type} (enc : TypeId × Value → H) : ∃ places, DataW.whole enc Tryd.prog ((laidWorld os).forCall (fun _ _ => 0) ⟨#[], #[.slice none 0 0], []⟩).memory Tryd.f3.params.toList Rows.fnOrdersSpec.vars false (#[.slice none 0 0] : Array Value).toList 8 = some ([.nil], [.agg [.lit (.int .i64 2), .lit (.int .i64 2), .lit (.int .i64 2), .lit (.int .i64 2), .lit (.int .i64 3), .lit (.int .i64 3), .lit (.int .i64 5), .lit (.int .i64 7), .lit (.int .i64 11)]], places) :=
  ⟨MemPlace.row ⟨0, 0, none⟩ 9, by kernel_rfl⟩

set_option maxRecDepth 100000 in
theorem lifted (os : Os) (started : os.Started) (H : Type) (enc : TypeId × Value → H) (F : Stop.Interp) :
    ReturnsInHanded {} Tryd.checked os 3 .any ((OpenSpec.ofChange Rows.fnOrdersSpec).preRow enc Tryd.prog Tryd.f3 Rows.fnOrdersRow.domain false Rows.fnOrdersRow.laid) (((OpenSpec.ofChange Rows.fnOrdersSpec).at F).post enc Tryd.prog Tryd.f3 false true false false) := by
  obtain ⟨places, hx⟩ := reads os enc
  refine returnsInHanded_of_row (C := Tryd.checked) (s := OpenSpec.ofChange Rows.fnOrdersSpec) own started (by kernel_rfl) Tryd.func3
    (witness_row_at (enc := enc) (C := Tryd.checked) false (laidWorld os) #[.slice none 0 0] rfl (by kernel_rfl) (by kernel_rfl) (by kernel_rfl)
      (OpenSpec.preRow_of_cond 8 hx (by kernel_rfl) (fun k hk => by cases hk) (by kernel_rfl) (laid_met os))) ?_
  intro W base args ds gs before hval hW _ _ _ hL _ _
  exact contract H enc W base args ds gs before hval hW hL

theorem said : Rows.FnOrdersSaid :=
  OpenClaim.holds_of_cond 3 Tryd.f3 rfl rfl rfl rfl rfl rfl rfl ⟨rfl, rfl, rfl, rfl, rfl⟩ rfl rfl rfl rfl rfl (by kernel_rfl) Tryd.func3 (by kernel_rfl)
    (of_decide_eq_true (by kernel_rfl)) (by unfold Func.isWrapper; first | (rw [if_pos (by decide +kernel)]; kernel_rfl) | (rw [if_neg (by decide +kernel)]; exact ⟨rfl, rfl⟩))
    (fun os started H enc _ F => by rw [OpenClaim.pre_eq_preRow]; exact lifted os started H enc F)

theorem plain (f : FuncId) (fn : Func) (hf : Tryd.pinned.checked.prog.funcNamed "loop.example/g01132/laws.FnOrders" = some f) (hfn : Tryd.pinned.checked.prog.funcs[f]? = some fn) :
    true = Tryd.pinned.checked.prog.looks [] ∧ ∀ (j : Nat) t, fn.params[j]? = some t → Tryd.pinned.checked.prog.wantsStandIn t = false := by
  obtain rfl : f = 3 := Option.some.inj ((show Tryd.prog.funcNamed "loop.example/g01132/laws.FnOrders" = some 3 by kernel_rfl).symm.trans hf) |>.symm
  obtain rfl : fn = Tryd.f3 := (Option.some.inj (Tryd.func3.symm.trans hfn)).symm
  refine ⟨by kernel_rfl, fun j t ht => ?_⟩
  rw [Tryd.params3] at ht
  obtain rfl : t = 22 := by simpa using Array.mem_of_getElem? ht
  exact (show Tryd.prog.wantsStandIn 22 = false by kernel_rfl)

theorem proved : Rows.FnOrdersCardSaid :=
  Claim7.holds_tied_plain_at .later [] _ _ _ _ said (fun _ h => by cases h) (by kernel_rfl) (fun _ h => by cases h) fnOrders_row_tie rfl ⟨rfl, rfl⟩ (by kernel_rfl) rfl plain (by kernel_rfl)
end Go.Proofs.YtjmkmcabpjmkgaaDoor.fnOrders
