/- 'FnExactPowerOfLabel': for all arguments the law answers true. No further condition. -/
import Derived.Test.YtfiilhoojoaflaaRows
import Derived.Test.YtfiilhoojoaflaaTri
import Derived.Test.YtfiilhoojoaflaaRgQ
import Derived.Deep.RegionHeld3
import Derived.OpenShut
import Derived.Carry
namespace Go.Proofs.Ytfiilhoojoaflaa.fnExactPowerOfLabel
open Go.ChangeShapes Go.WideShapes Go.ChangeAt Go.RowKit
set_option linter.unusedVariables false

theorem own : ownKnob Try.prog.godebug = none := by kernel_rfl
theorem laidOut : laidOutB Try.prog = true := by kernel_rfl
set_option maxHeartbeats 4000000 in
set_option maxRecDepth 100000 in
theorem walk (w : World) (a0 : Option Addr) (n0 c0 : Nat) (M0 : Nat → Nat) (L0 : Nat → Nat → Nat) (f0 : Nat → Nat → Nat → Int) (hm0 : n0 ≤ maxLen) (hx0 : ∀ i, i < n0 → M0 i ≤ maxLen) (hy0 : ∀ i, i < n0 → ∀ j, j < M0 i → L0 i j ≤ maxLen) (r0 : RdT w a0 n0 M0 L0 f0) (k1 : Int) (w1 : (Lit.int .i64 k1).wf = true) (k2 : Int) (w2 : (Lit.int .i64 k2).wf = true) :
    Calls Try.prog 3 #[.agg #[.slice a0 n0 c0], .int .i64 k1, .int .i64 k2] w fun e w' => e = .returned (.bool true) ∧ Below w.heap.size w w' := by
  have R0 := Lib.hid r0
  clear r0
  have X0 := Lib.hid hx0
  clear hx0
  have Y0 := Lib.hid hy0
  clear hy0
  have W1 := Lib.hid w1
  clear w1
  have W2 := Lib.hid w2
  clear w2
  obtain ⟨wb, hwb⟩ : ∃ x, x = w.alloc (.cells #[.slice a0 n0 c0] 24) := ⟨_, rfl⟩
  have HWB := Lib.hid (show Below w.heap.size w wb by rw [hwb]; exact ((Below.refl w.heap.size w).alloc (by exact Nat.le_refl _) _))
  have EB0 := Lib.hid (show wb.cell? ⟨w.heap.size, 0, none⟩ = some (.slice a0 n0 c0) by rw [hwb]; exact cell_box _ _ _)
  have LB0 := Lib.hid (show w.heap.size < wb.heap.size by rw [hwb]; simp; try omega)
  have WBE := Lib.hid hwb
  clear hwb
  have R0 := Lib.hid (R0.out.below HWB.out (Nat.le_refl _))
  obtain ⟨v0, hv0⟩ : ∃ v, v = szLeft n0 (cnt M0 L0) (1048576 : Int) := ⟨_, rfl⟩
  have S0 : Hid (∀ u, Below wb.heap.size wb u → Calls Try.prog 12 #[.agg #[.slice a0 n0 c0], .int .i64 1048576] u fun e w' => e = .returned (.int .i64 v0) ∧ Below wb.heap.size wb w') := Lib.hid fun u hu => by
    rw [hv0]; exact (szRing_f a0 n0 c0 M0 L0 f0 _ u (R0.out.below hu (Nat.le_refl _)) hm0 X0.out Y0.out (by omega) (by omega)).mono fun _ _ h => ⟨h.1, hu.trans (h.2.mono hu.size)⟩
  have V0 := Lib.hid hv0
  clear hv0
  by_cases hs0 : v0 < 0
  · have hds0 : decide (v0 < 0) = true := by simp; omega
    go_enter Try.func3, Try.ntmps3
    go_wp2_with fail
    rw [← WBE.out]
    refine (S0.out _ (Below.refl _ _)).mono ?_
    rintro e z0 ⟨rfl, hz0⟩
    have ZB0 := Lib.hid hz0
    clear hz0
    go_wp2_with fail
    go_ret
    exact ⟨rfl, HWB.out.trans ((ZB0.out).mono HWB.out.size)⟩
  have hds0 : decide (v0 < 0) = false := by simp; omega
  have hz0 := szLeft_pos (n := n0) (L := (cnt M0 L0)) (l := (1048576 : Int)) (by rw [← V0.out]; exact hs0)
  rw [← V0.out] at hz0
  obtain ⟨hza0, hzb0⟩ := hz0
  have B0 := Lib.hid (show n0 ≤ 1048576 ∧ pre (cnt M0 L0) n0 ≤ 1048576 from ⟨by omega, by omega⟩)
  have hb0 : 0 ≤ v0 ∧ v0 ≤ 1048576 := ⟨by omega, by omega⟩
  have Q0 := Lib.hid (show ∀ i, i < n0 → M0 i ≤ 1048576 from fun i hi => Nat.le_trans (Nat.le_add_right _ _) (Nat.le_trans (pre_at (cnt M0 L0) hi) B0.out.2))
  have Y0 := Lib.hid (show ∀ i, i < n0 → ∀ j, j < M0 i → L0 i j ≤ 1048576 from fun i hi j hj => Nat.le_trans (pre_at (L0 i) hj) (Nat.le_trans (Nat.le_add_left _ _) (Nat.le_trans (pre_at (cnt M0 L0) hi) B0.out.2)))
  have pair : ∃ (N : Nat) (FF : Nat → Int) (cd : Int), N ≤ 64 ∧ (∀ (x0 : Option Addr) (y0 : Nat) (u : World), RdT u x0 n0 M0 L0 f0 → Calls Try.prog 13 #[.agg #[.slice x0 n0 y0], .int .i64 k1, .int .i64 k2] u (RowRes u N FF cd)) ∧ (∀ (x0 : Option Addr) (y0 : Nat) (u : World), RdT u x0 n0 M0 L0 f0 → Calls Try.prog 15 #[.agg #[.slice x0 n0 y0], .int .i64 k1, .int .i64 k2] u (RowRes u N FF cd)) := by
    refine ⟨_, _, _, ?b1, fun x0 y0 u z0 => specPow_f x0 n0 y0 M0 L0 f0 k1 k2 u z0 B0.out.1 Q0.out Y0.out W1.out W2.out, fun x0 y0 u z0 => implPow_f x0 n0 y0 M0 L0 f0 k1 k2 u z0 B0.out.1 Q0.out Y0.out W1.out W2.out⟩
    case b1 => exact implPow_f_rows n0 M0 L0 f0 k1 k2
  obtain ⟨N, FF, cd, hN, hS, hI⟩ := pair
  have HS := Lib.hid hS
  have HI := Lib.hid hI
  clear hS hI
  have hcd : (cd != cd) = false := by simp
  have hq0 : decide ((1 : Int) + (N : Int) < 0) = false := by simp; omega
  have hq1 : ((1 : Int) + (N : Int) != (1 : Int) + (N : Int)) = false := by simp
  obtain ⟨p0, hp0⟩ : ∃ p, p = sum3 M0 L0 n0 := ⟨_, rfl⟩
  have hpb0 : p0 ≤ 1048576 := by rw [hp0]; exact Nat.le_trans (sum3_le _ _ _) (B0.out.2)
  have P0 := Lib.hid hp0
  clear hp0
  have hk0 : decide ((1 : Int) + (p0 : Int) < 0) = false := by simp; omega
  go_enter Try.func3, Try.ntmps3
  go_wp2_with fail
  rw [← WBE.out]
  refine (S0.out _ (Below.refl _ _)).mono ?_
  rintro e z0 ⟨rfl, hz0⟩
  have ZB0 := Lib.hid hz0
  clear hz0
  have eB0 := ZB0.out.cell (p := ⟨w.heap.size, 0, none⟩) LB0.out
  rw [EB0.out] at eB0
  go_wp2_with fail
  clear eB0
  refine (toRing_f _ _ _ M0 L0 f0 _ (R0.out.below ZB0.out (Nat.le_refl _)) B0.out.1 Q0.out Y0.out).mono ?_
  rintro e w1 ⟨loC0, bC0, rfl, s1, s2, q, b⟩
  have C0 := Lib.hid q
  have S1C0 := Lib.hid s1
  have ZC0 := Lib.hid b.size
  have BB := Lib.hid b
  clear b q s1 s2
  have Tw1 := Lib.hid (ZB0.out.trans ((BB.out).mono ZB0.out.size))
  clear BB
  go_wp2_with fail
  refine (HS.out _ _ _ (C0.out.rd)).mono ?_
  rintro e w2 ⟨sa, sc, rfl, q, b⟩
  have SR := Lib.hid q.rd
  clear q
  have BB := Lib.hid b
  clear b
  have Tw2 := Lib.hid (Tw1.out.trans ((BB.out).mono Tw1.out.size))
  clear BB
  have Uw2 := Lib.hid (Below.refl w2.heap.size w2)
  clear C0
  have eB0 := Tw2.out.cell (p := ⟨w.heap.size, 0, none⟩) LB0.out
  rw [EB0.out] at eB0
  go_wp2_with fail
  clear eB0
  refine (toRing_f _ _ _ M0 L0 f0 _ (R0.out.below Tw2.out (Nat.le_refl _)) B0.out.1 Q0.out Y0.out).mono ?_
  rintro e w3 ⟨loD0, bD0, rfl, s1, s2, q, b⟩
  have D0 := Lib.hid q
  have S1D0 := Lib.hid s1
  have ZD0 := Lib.hid b.size
  have BB := Lib.hid b
  clear b q s1 s2
  have Tw3 := Lib.hid (Tw2.out.trans ((BB.out).mono Tw2.out.size))
  have Uw3 := Lib.hid (Uw2.out.trans ((BB.out).mono Uw2.out.size))
  clear BB
  go_wp2_with fail
  obtain ⟨x0, hwx⟩ : ∃ x, x = w3.alloc (.cells #[.slice (some ⟨bD0, 0, none⟩) n0 n0] 29) := ⟨_, rfl⟩
  rw [← hwx]
  have EX0 := Lib.hid (show x0.cell? ⟨w3.heap.size, 0, none⟩ = some (.slice (some ⟨bD0, 0, none⟩) n0 n0) by rw [hwx]; exact cell_box _ _ _)
  have LX0 := Lib.hid (show w3.heap.size < x0.heap.size by rw [hwx]; simp)
  have BB := Lib.hid (show Below w3.heap.size w3 x0 by rw [hwx]; exact below_alloc _ _)
  clear hwx
  have Tx0 := Lib.hid (Tw3.out.trans ((BB.out).mono Tw3.out.size))
  have Ux0 := Lib.hid (Uw3.out.trans ((BB.out).mono Uw3.out.size))
  have D0 := Lib.hid (D0.out.below (BB.out) (Nat.le_refl _))
  clear BB
  have V0x0 := Lib.hid (Below.refl x0.heap.size x0)
  refine (HI.out _ _ _ (D0.out.rd)).mono ?_
  rintro e w4 ⟨ga, gc, rfl, q, b⟩
  have LE0 := Lib.hid (show w3.heap.size ≤ x0.heap.size by have yx0 := LX0.out; omega)
  have GR := Lib.hid q
  clear q
  have BB := Lib.hid b
  clear b
  have Tw4 := Lib.hid (Tx0.out.trans ((BB.out).mono Tx0.out.size))
  have Uw4 := Lib.hid (Ux0.out.trans ((BB.out).mono Ux0.out.size))
  have V0w4 := Lib.hid (V0x0.out.trans ((BB.out).mono V0x0.out.size))
  have D0 := Lib.hid (D0.out.below (BB.out) (Nat.le_refl _))
  clear BB
  go_wp2_with fail
  refine (eqInt64S_f _ _ _ _ _ _ _ GR.out.rd (SR.out.below Uw4.out (Nat.le_refl _)) (by omega)).mono ?_
  rintro e w5 ⟨rfl, b⟩
  have BB := Lib.hid b
  clear b
  have Tw5 := Lib.hid (Tw4.out.trans ((BB.out).mono Tw4.out.size))
  have Uw5 := Lib.hid (Uw4.out.trans ((BB.out).mono Uw4.out.size))
  have V0w5 := Lib.hid (V0w4.out.trans ((BB.out).mono V0w4.out.size))
  have D0 := Lib.hid (D0.out.below (BB.out) (Nat.le_refl _))
  have GR := Lib.hid (GR.out.below (BB.out) (Nat.le_refl _))
  clear BB
  have eB0 := Tw5.out.cell (p := ⟨w.heap.size, 0, none⟩) LB0.out
  rw [EB0.out] at eB0
  have eX0 := V0w5.out.cell (p := ⟨w3.heap.size, 0, none⟩) LX0.out
  rw [EX0.out] at eX0
  go_wp2_with fail
  go_region_held3 (fun u => u.cell? ⟨w.heap.size, 0, none⟩ = some (.slice a0 n0 c0) ∧ u.cell? ⟨w3.heap.size, 0, none⟩ = some (.slice (some ⟨bD0, 0, none⟩) n0 n0)) (first | exact ⟨eB0, eX0⟩ | exact KA.out | exact KC.out) (first | (go_at_call 14; refine (toRing_f _ _ _ M0 L0 f0 _ (R0.out.below (by first | exact Tw5.out.drew | exact Tw5.out) (Nat.le_refl _)) B0.out.1 Q0.out Y0.out).mono ?_; rintro e w6 ⟨loE, bE, rfl, s1, s2, q, b⟩; have BB := Lib.hid (show Below w5.heap.size w5 w6 from ⟨b.os, b.tape, b.output, b.size, b.block⟩); have EE := Lib.hid q; have DE := Lib.hid (D0.out.below BB.out (Nat.le_refl _)); have KA := Lib.hid (show w6.cell? ⟨w.heap.size, 0, none⟩ = some (.slice a0 n0 c0) ∧ w6.cell? ⟨w3.heap.size, 0, none⟩ = some (.slice (some ⟨bD0, 0, none⟩) n0 n0) from ⟨(BB.out.cell (p := ⟨w.heap.size, 0, none⟩) (by have := Tw5.out.size; have := LB0.out; show w.heap.size < _; omega)).trans eB0, (BB.out.cell (p := ⟨w3.heap.size, 0, none⟩) (by have := V0w5.out.size; have := LX0.out; show w3.heap.size < _; omega)).trans eX0⟩); clear q b s1 s2) | (go_at_call 17; refine (eqRing_f _ _ _ _ _ _ _ _ _ DE.out.rd EE.out.rd (Nat.le_trans B0.out.1 (by omega)) (fun i hi => Nat.le_trans (Q0.out i hi) (by omega)) (fun i hi j hj => Nat.le_trans (Y0.out i hi j hj) (by omega))).mono ?_; rintro e w7 ⟨rfl, b⟩; have BC := Lib.hid (BB.out.trans (b.mono BB.out.size)); have KC := Lib.hid (show w7.cell? ⟨w.heap.size, 0, none⟩ = some (.slice a0 n0 c0) ∧ w7.cell? ⟨w3.heap.size, 0, none⟩ = some (.slice (some ⟨bD0, 0, none⟩) n0 n0) from ⟨(BC.out.cell (p := ⟨w.heap.size, 0, none⟩) (by have := Tw5.out.size; have := LB0.out; show w.heap.size < _; omega)).trans eB0, (BC.out.cell (p := ⟨w3.heap.size, 0, none⟩) (by have := V0w5.out.size; have := LX0.out; show w3.heap.size < _; omega)).trans eX0⟩); clear b))
  clear eB0 eX0
  have Tw7 := Lib.hid (Tw5.out.trans ((BC.out).mono Tw5.out.size))
  have Uw7 := Lib.hid (Uw5.out.trans ((BC.out).mono Uw5.out.size))
  have V0w7 := Lib.hid (V0w5.out.trans ((BC.out).mono V0w5.out.size))
  have D0 := Lib.hid (D0.out.below (BC.out) (Nat.le_refl _))
  have GR := Lib.hid (GR.out.below (BC.out) (Nat.le_refl _))
  clear BC BB EE DE KA KC
  have eX0 := V0w7.out.cell (p := ⟨w3.heap.size, 0, none⟩) LX0.out
  rw [EX0.out] at eX0
  go_wp2_with fail
  clear eX0
  have MK0 := Lib.hid (show Calls Try.prog 18 #[.agg #[.slice (some ⟨bD0, 0, none⟩) n0 n0], .int .i64 ((1 : Int))] w7 fun e w' => e = .returned (.int .i64 (((1 : Int)) + (p0 : Int))) ∧ ∃ o, Only (fun k => loD0 ≤ k ∧ k < w3.heap.size) (w7.alloc o) w' from by rw [P0.out]; exact (markRing_f _ _ _ _ _ _ _ _ _ _ D0.out (Nat.le_trans B0.out.1 (by omega)) (fun i hi => Nat.le_trans (Q0.out i hi) (by omega)) (by rw [← P0.out]; omega) (by omega) (by omega)).mono fun _ _ h => ⟨h.1, h.2.2⟩)
  refine MK0.out.mono ?_
  rintro e w8 ⟨rfl, oo, ho⟩
  obtain ⟨w8m, hwm⟩ : ∃ x, x = w7.alloc oo := ⟨_, rfl⟩
  rw [← hwm] at ho
  have BB := Lib.hid (show Below w7.heap.size w7 w8m by rw [hwm]; exact below_alloc _ _)
  clear hwm
  have Tw8m := Lib.hid (Tw7.out.trans ((BB.out).mono Tw7.out.size))
  have Uw8m := Lib.hid (Uw7.out.trans ((BB.out).mono Uw7.out.size))
  have V0w8m := Lib.hid (V0w7.out.trans ((BB.out).mono V0w7.out.size))
  have D0 := Lib.hid (D0.out.below (BB.out) (Nat.le_refl _))
  have GR := Lib.hid (GR.out.below (BB.out) (Nat.le_refl _))
  clear BB
  have OO := Lib.hid ho
  clear ho
  have BO := Lib.hid (OO.out.below (B := w2.heap.size) (fun k hk => by have := Uw2.out.size; have z1 := S1D0.out; have hk2 := hk.1; omega))
  have Tw8 := Lib.hid (Tw8m.out.trans (BO.out.mono Tw2.out.size))
  have Uw8 := Lib.hid (Uw8m.out.trans BO.out)
  clear BO
  have GR := Lib.hid (GR.out.only OO.out (fun k hk => by have z1 := ZD0.out; have z2 : w3.heap.size ≤ x0.heap.size := LE0.out; have hk2 := hk.2; omega))
  clear OO D0 MK0
  go_wp2_with fail
  refine (eqInt64S_f _ _ _ _ _ _ _ GR.out.rd (SR.out.below Uw8.out (Nat.le_refl _)) (by omega)).mono ?_
  rintro e w9 ⟨rfl, b⟩
  have BB := Lib.hid b
  clear b
  have Tw9 := Lib.hid (Tw8.out.trans ((BB.out).mono Tw8.out.size))
  have Uw9 := Lib.hid (Uw8.out.trans ((BB.out).mono Uw8.out.size))
  have GR := Lib.hid (GR.out.below (BB.out) (Nat.le_refl _))
  clear BB
  go_wp2_with fail
  have MG := Lib.hid (markInt64S_own _ _ N gc _ 1 _ GR.out (by omega) (by omega) (by omega))
  refine MG.out.mono ?_
  rintro e w10 ⟨rfl, q, ho⟩
  have GM := Lib.hid q
  have OO := Lib.hid ho
  clear q ho GR MG
  have BO := Lib.hid (OO.out.below (B := x0.heap.size) (fun k hk => hk.1))
  have Tw10 := Lib.hid (Tw9.out.trans (BO.out.mono Tx0.out.size))
  have Uw10 := Lib.hid (Uw9.out.trans (BO.out.mono Ux0.out.size))
  clear BO OO
  go_wp2_with fail
  have HG := Lib.hid (heldInt64S_f _ N gc 1 _ GM.out.rd (by omega) (by omega) (by omega))
  refine HG.out.mono ?_
  rintro e w' ⟨rfl, rfl⟩
  clear HG
  have eB0 := Tw10.out.cell (p := ⟨w.heap.size, 0, none⟩) LB0.out
  rw [EB0.out] at eB0
  go_wp2_with fail
  clear eB0
  refine (toRing_f _ _ _ M0 L0 f0 _ (R0.out.below Tw10.out (Nat.le_refl _)) B0.out.1 Q0.out Y0.out).mono ?_
  rintro e w11 ⟨loH0, bH0, rfl, s1, s2, q, b⟩
  have H0 := Lib.hid q
  have S1H0 := Lib.hid s1
  have ZH0 := Lib.hid b.size
  have BB := Lib.hid b
  clear b q s1 s2
  have Tw11 := Lib.hid (Tw10.out.trans ((BB.out).mono Tw10.out.size))
  have Uw11 := Lib.hid (Uw10.out.trans ((BB.out).mono Uw10.out.size))
  have GM := Lib.hid (GM.out.below (BB.out) (Nat.le_refl _))
  clear BB
  go_wp2_with fail
  refine (HI.out _ _ _ (H0.out.rd)).mono ?_
  rintro e w12 ⟨ha, hc, rfl, q, b⟩
  have HR := Lib.hid q.rd
  have BB := Lib.hid b
  clear q b
  have Tw12 := Lib.hid (Tw11.out.trans ((BB.out).mono Tw11.out.size))
  have Uw12 := Lib.hid (Uw11.out.trans ((BB.out).mono Uw11.out.size))
  have GM := Lib.hid (GM.out.below (BB.out) (Nat.le_refl _))
  clear BB
  go_wp2_with fail
  refine (eqInt64S_f _ _ _ _ _ _ _ HR.out (SR.out.below Uw12.out (Nat.le_refl _)) (by omega)).mono ?_
  rintro e w13 ⟨rfl, b⟩
  have BB := Lib.hid b
  clear b
  have Tw13 := Lib.hid (Tw12.out.trans ((BB.out).mono Tw12.out.size))
  have Uw13 := Lib.hid (Uw12.out.trans ((BB.out).mono Uw12.out.size))
  have GM := Lib.hid (GM.out.below (BB.out) (Nat.le_refl _))
  clear BB
  go_wp2_with fail
  have HG := Lib.hid (heldInt64S_f _ N gc 1 _ GM.out.rd (by omega) (by omega) (by omega))
  refine HG.out.mono ?_
  rintro e w' ⟨rfl, rfl⟩
  clear HG
  go_wp2_with fail
  go_ret
  exact ⟨rfl, HWB.out.trans (Tw13.out.mono HWB.out.size)⟩

set_option maxRecDepth 100000 in
theorem lifted (os : Os) (started : os.Started) (H : Type) (enc : TypeId × Value → H) :
    ReturnsInHanded {} Try.checked os 3 .any (Rows.fnExactPowerOfLabelSpec.pre6 enc Try.prog Try.f3 Rows.fnExactPowerOfLabelRow.domain false) (Rows.fnExactPowerOfLabelSpec.post enc Try.prog Try.f3 false true false false) := by
  refine returnsInHanded_of_change (C := Try.checked) own started (by kernel_rfl) Try.func3
    (ChangeSpec.witness6 (enc := enc) (C := Try.checked) false ⟨#[], #[.agg #[.slice none 0 0], .int .i64 0, .int .i64 0], []⟩ 8 (by kernel_rfl) (by kernel_rfl) (by kernel_rfl) (by kernel_rfl)) ?_
  intro W base args ds gs before hval0 hW hcnd _
  have hval : ∀ (j : Nat) t v, Try.f3.params[j]? = some t → args[j]? = some v → Value.okWide Try.prog W .any base t v := hval0
  have hW' := hW
  obtain ⟨p, q, hA0, hV, rfl, hfz, hnd⟩ := hW
  have hA : DataW.TrodAll enc Try.prog W 0 (fun _ => true) true Try.f3.params.toList args.toList ds p := hA0
  rw [Try.params3] at hA hval
  obtain ⟨v0, vs0, d0, ds0, p0, q0, hargs, rfl, rfl, h0, t0⟩ := trodAll_cons hA
  obtain ⟨v1, vs1, d1, ds1, p1, q1, rfl, rfl, rfl, h1, t1⟩ := trodAll_cons t0
  obtain ⟨v2, vs2, d2, ds2, p2, q2, rfl, rfl, rfl, h2, t2⟩ := trodAll_cons t1
  obtain ⟨rfl, rfl, rfl⟩ := trodAll_nil t2
  obtain rfl : args = #[v0, v1, v2] := by cases args; simp_all
  obtain ⟨rfl, rfl⟩ := trodVars_none hV
  obtain ⟨a0, n0, c0, rfl, hm0, M0, L0, f0, hx0, hy0, r0⟩ := RdRing_of_trod (hval 0 24 v0 rfl rfl) h0
  obtain ⟨k1, rfl, rfl, rfl, w1⟩ := open_int Try.underlying2 (hval 1 2 v1 rfl rfl) h1
  obtain ⟨k2, rfl, rfl, rfl, w2⟩ := open_int Try.underlying2 (hval 2 2 v2 rfl rfl) h2
  clear hA0 hval0
  refine (walk W a0 n0 c0 M0 L0 f0 hm0 hx0 hy0 r0 k1 w1 k2 w2).mono fun e W' ⟨he, hg⟩ => ?_
  subst he
  refine ⟨_, rfl, _, _, _, [], (p0 ++ ([] ++ ([] ++ []))), [], hW', ?_, ?_, rfl, hg.frame _, fun h => by cases h⟩
  · exact (trodAll_cons_mk (shut_bool Try.underlying4 _) trodAll_mk0)
  · exact (trodAll_cons_mk (Below.trod laidOut (by kernel_rfl) (of_decide_eq_true (by kernel_rfl)) h0 hg (fun x hx => hW'.lt x (by simp [hx]))) (trodAll_cons_mk (shut_int Try.underlying2 w1) (trodAll_cons_mk (shut_int Try.underlying2 w2) trodAll_mk0)))

theorem over : Rows.fnExactPowerOfLabelRow.holds Try.pinned (OpenSpec.ofChange Rows.fnExactPowerOfLabelSpec) :=
  OpenClaim.holds_of_wide 3 Try.f3 rfl rfl rfl rfl rfl rfl rfl ⟨rfl, rfl, rfl, rfl, rfl⟩ rfl rfl rfl rfl rfl (by kernel_rfl) Try.func3 (by kernel_rfl)
    (of_decide_eq_true (by kernel_rfl)) (by unfold Func.isWrapper; first | (rw [if_pos (by decide +kernel)]; kernel_rfl) | (rw [if_neg (by decide +kernel)]; exact ⟨rfl, rfl⟩))
    (fun os started H enc _ => lifted os started H enc)

theorem proved : Rows.FnExactPowerOfLabelSaid :=
  over
end Go.Proofs.Ytfiilhoojoaflaa.fnExactPowerOfLabel
