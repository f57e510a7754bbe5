/- 'FnExactGradingGroup': for all arguments the law answers true, where the listed variables of the library hold what its text lays. -/
import Derived.Test.YtpfodikmidgpmaaDoorCards
import Derived.Test.YtpfodikmidgpmaaDoorTie
import Derived.Test.YtpfodikmidgpmaaDoorGgF
import Derived.Test.YtpfodikmidgpmaaDoorTri
import Derived.Deep.RegionHeld3
import Derived.Carry
import Derived.OpenShut
import Derived.Deep.DeepHandedRow
import Derived.Deep.DeepWitnessRowRef
import Derived.Lib.LaidTab
import Derived.MakeChecks
import Derived.Stop.LaidErr
import Derived.ChangeMaps5
namespace Go.Proofs.YtpfodikmidgpmaaDoor.fnExactGradingGroup
open Go.ChangeShapes Go.WideShapes Go.ChangeAt Go.RowKit
set_option linter.unusedVariables false

theorem own : ownKnob Tryd.prog.godebug = none := by kernel_rfl
theorem laidOut : laidOutB Tryd.prog = true := by kernel_rfl
theorem gTz : Tryd.prog.globalNamed "math/bits.deBruijn64tab" = some 0 := by kernel_rfl
theorem gTabType : (Tryd.prog.globals[0]?).map (·.type) = some 80 := by kernel_rfl
theorem cellsTab : Tryd.prog.cellsOf 80 = 64 := by kernel_rfl
theorem cellsInt : Tryd.prog.cellsOf 5 = 1 := by kernel_rfl
theorem laidPlain {W : World} (h : laidMetH Tryd.prog Rows.fnExactGradingGroupRow.laid W) : laidMet Tryd.prog Rows.fnExactGradingGroupRow.laid W := by
  rw [← Go.MakeChecks.laidMetH_plain _ _ _ (by kernel_rfl)]; exact h
def tzZ : List Int := [0, 1, 56, 2, 57, 49, 28, 3, 61, 58, 42, 50, 38, 29, 17, 4, 62, 47, 59, 36, 45, 43, 51, 22, 53, 39, 33, 30, 24, 18, 12, 5, 63, 55, 48, 27, 60, 41, 37, 16, 46, 35, 44, 21, 52, 32, 23, 11, 54, 26, 40, 15, 34, 20, 31, 10, 25, 14, 19, 9, 13, 8, 7, 6]
theorem tabIs {W : World} (h : laidMetH Tryd.prog Rows.fnExactGradingGroupRow.laid W) : Lib.TabIs Tryd.prog W "math/bits.deBruijn64tab" .u8 tzZ :=
  Lib.tabIs_of_head gTz gTabType Tryd.underlying80 Tryd.underlying5 cellsInt cellsTab (laidPlain h)
theorem tz_same : ∀ j, j < 64 → tzZ.getD j 0 = ((Lib.deBruijn64tab.getD j 0 : Nat) : Int) := by decide +kernel
theorem table {W : World} (h : laidMetH Tryd.prog Rows.fnExactGradingGroupRow.laid W) : TzTab W := fun j hj => by
  have hc := Lib.TabIs.cell (g := 0) (tabIs h) gTz j (show j < 64 from hj)
  rw [tz_same j hj] at hc
  exact hc
theorem tz_lt {W : World} (h : TzTab W) : 0 < W.heap.size := by
  have hc := h 0 (by decide)
  by_cases hlt : 0 < W.heap.size
  · exact hlt
  · exfalso
    unfold World.cell? at hc
    rw [Array.getElem?_eq_none (by simpa using hlt)] at hc
    simp at hc
set_option maxHeartbeats 4000000 in
set_option maxRecDepth 100000 in
theorem walk (w : World) (a0 : Option Addr) (n0 c0 : Nat) (M0 : Nat → Nat) (L0 : Nat → Nat → Nat) (f0 : Nat → Nat → Nat → Int) (hm0 : n0 ≤ maxLen) (hx0 : ∀ i, i < n0 → M0 i ≤ maxLen) (hy0 : ∀ i, i < n0 → ∀ j, j < M0 i → L0 i j ≤ maxLen) (r0 : RdT w a0 n0 M0 L0 f0) (hP : TzTab w) (hG : 0 < w.heap.size) :
    Calls Tryd.prog 3 #[.agg #[.slice a0 n0 c0]] w fun e w' => e = .returned (.bool true) ∧ Below w.heap.size w w' := by
  have HP := Lib.hid hP
  clear hP
  have R0 := Lib.hid r0
  clear r0
  have X0 := Lib.hid hx0
  clear hx0
  have Y0 := Lib.hid hy0
  clear hy0
  obtain ⟨wb, hwb⟩ : ∃ x, x = w.alloc (.cells #[.slice a0 n0 c0] 24) := ⟨_, rfl⟩
  have HWB := Lib.hid (show Below w.heap.size w wb by rw [hwb]; exact ((Below.refl w.heap.size w).alloc (by exact Nat.le_refl _) _))
  have EB0 := Lib.hid (show wb.cell? ⟨w.heap.size, 0, none⟩ = some (.slice a0 n0 c0) by rw [hwb]; exact cell_box _ _ _)
  have LB0 := Lib.hid (show w.heap.size < wb.heap.size by rw [hwb]; simp; try omega)
  have WBE := Lib.hid hwb
  clear hwb
  have R0 := Lib.hid (R0.out.below HWB.out (Nat.le_refl _))
  obtain ⟨v0, hv0⟩ : ∃ v, v = szLeft n0 (cnt M0 L0) (1048576 : Int) := ⟨_, rfl⟩
  have S0 : Hid (∀ u, Below wb.heap.size wb u → Calls Tryd.prog 4 #[.agg #[.slice a0 n0 c0], .int .i64 1048576] u fun e w' => e = .returned (.int .i64 v0) ∧ Below wb.heap.size wb w') := Lib.hid fun u hu => by
    rw [hv0]; exact (szRing_f a0 n0 c0 M0 L0 f0 _ u (R0.out.below hu (Nat.le_refl _)) hm0 X0.out Y0.out (by omega) (by omega)).mono fun _ _ h => ⟨h.1, hu.trans (h.2.mono hu.size)⟩
  have V0 := Lib.hid hv0
  clear hv0
  by_cases hs0 : v0 < 0
  · have hds0 : decide (v0 < 0) = true := by simp; omega
    go_enter Tryd.func3, Tryd.ntmps3
    go_wp2_with fail
    rw [← WBE.out]
    refine (S0.out _ (Below.refl _ _)).mono ?_
    rintro e z0 ⟨rfl, hz0⟩
    have ZB0 := Lib.hid hz0
    clear hz0
    go_wp2_with fail
    go_ret
    exact ⟨rfl, HWB.out.trans ((ZB0.out).mono HWB.out.size)⟩
  have hds0 : decide (v0 < 0) = false := by simp; omega
  have hz0 := szLeft_pos (n := n0) (L := (cnt M0 L0)) (l := (1048576 : Int)) (by rw [← V0.out]; exact hs0)
  rw [← V0.out] at hz0
  obtain ⟨hza0, hzb0⟩ := hz0
  have B0 := Lib.hid (show n0 ≤ 1048576 ∧ pre (cnt M0 L0) n0 ≤ 1048576 from ⟨by omega, by omega⟩)
  have hb0 : 0 ≤ v0 ∧ v0 ≤ 1048576 := ⟨by omega, by omega⟩
  have Q0 := Lib.hid (show ∀ i, i < n0 → M0 i ≤ 1048576 from fun i hi => Nat.le_trans (Nat.le_add_right _ _) (Nat.le_trans (pre_at (cnt M0 L0) hi) B0.out.2))
  have Y0 := Lib.hid (show ∀ i, i < n0 → ∀ j, j < M0 i → L0 i j ≤ 1048576 from fun i hi j hj => Nat.le_trans (pre_at (L0 i) hj) (Nat.le_trans (Nat.le_add_left _ _) (Nat.le_trans (pre_at (cnt M0 L0) hi) B0.out.2)))
  have pair : ∃ (N : Nat) (LL : Nat → Nat) (FF : Nat → Nat → Int) (cd : Int), N ≤ 64 ∧ (∀ i, i < N → LL i ≤ 64) ∧ (∀ (x0 : Option Addr) (y0 : Nat) (u : World), RdT u x0 n0 M0 L0 f0 → Calls Tryd.prog 5 #[.agg #[.slice x0 n0 y0]] u (TabRes u N LL FF cd)) ∧ (∀ (x0 : Option Addr) (y0 : Nat) (u : World), RdT u x0 n0 M0 L0 f0 → TzTab u → 0 < u.heap.size → Calls Tryd.prog 7 #[.agg #[.slice x0 n0 y0]] u (TabRes u N LL FF cd)) := by
    refine ⟨_, _, _, _, ?b1, ?b2, fun x0 y0 u z0 => specGrd_f x0 n0 y0 M0 L0 f0 u z0 B0.out.1 Q0.out Y0.out, fun x0 y0 u z0 hp hg => implGrd_f x0 n0 y0 M0 L0 f0 u z0 B0.out.1 Q0.out Y0.out hp hg⟩
    case b1 => exact implGrd_f_rows n0 M0 L0 f0
    case b2 => exact implGrd_f_cols n0 M0 L0 f0
  obtain ⟨N, LL, FF, cd, hN, hLL, hS, hI⟩ := pair
  have HS := Lib.hid hS
  have HI := Lib.hid hI
  clear hS hI
  have hcd : (cd != cd) = false := by simp
  have hpr := pre_le hLL
  have HLL := Lib.hid hLL
  clear hLL
  obtain ⟨pn, hpn⟩ : ∃ pn, pn = pre LL N := ⟨_, rfl⟩
  rw [← hpn] at hpr
  have hpr' : pn ≤ 4096 := by omega
  have PN := Lib.hid hpn
  clear hpn hpr
  have hq0 : decide ((1 : Int) + (pn : Int) < 0) = false := by simp; omega
  have hq1 : ((1 : Int) + (pn : Int) != (1 : Int) + (pn : Int)) = false := by simp
  obtain ⟨p0, hp0⟩ : ∃ p, p = sum3 M0 L0 n0 := ⟨_, rfl⟩
  have hpb0 : p0 ≤ 1048576 := by rw [hp0]; exact Nat.le_trans (sum3_le _ _ _) (B0.out.2)
  have P0 := Lib.hid hp0
  clear hp0
  have hk0 : decide ((1 : Int) + (p0 : Int) < 0) = false := by simp; omega
  go_enter Tryd.func3, Tryd.ntmps3
  go_wp2_with fail
  rw [← WBE.out]
  refine (S0.out _ (Below.refl _ _)).mono ?_
  rintro e z0 ⟨rfl, hz0⟩
  have ZB0 := Lib.hid hz0
  clear hz0
  have eB0 := ZB0.out.cell (p := ⟨w.heap.size, 0, none⟩) LB0.out
  rw [EB0.out] at eB0
  go_wp2_with fail
  clear eB0
  refine (toRing_f _ _ _ M0 L0 f0 _ (R0.out.below ZB0.out (Nat.le_refl _)) B0.out.1 Q0.out Y0.out).mono ?_
  rintro e w1 ⟨loC0, bC0, rfl, s1, s2, q, b⟩
  have C0 := Lib.hid q
  have S1C0 := Lib.hid s1
  have ZC0 := Lib.hid b.size
  have BB := Lib.hid b
  clear b q s1 s2
  have Tw1 := Lib.hid (ZB0.out.trans ((BB.out).mono ZB0.out.size))
  clear BB
  go_wp2_with fail
  refine (HS.out _ _ _ (C0.out.rd)).mono ?_
  rintro e w2 ⟨sa, sc, rfl, q, b⟩
  have SR := Lib.hid q.rd
  clear q
  have BB := Lib.hid b
  clear b
  have Tw2 := Lib.hid (Tw1.out.trans ((BB.out).mono Tw1.out.size))
  clear BB
  have Uw2 := Lib.hid (Below.refl w2.heap.size w2)
  clear C0
  have eB0 := Tw2.out.cell (p := ⟨w.heap.size, 0, none⟩) LB0.out
  rw [EB0.out] at eB0
  go_wp2_with fail
  clear eB0
  refine (toRing_f _ _ _ M0 L0 f0 _ (R0.out.below Tw2.out (Nat.le_refl _)) B0.out.1 Q0.out Y0.out).mono ?_
  rintro e w3 ⟨loD0, bD0, rfl, s1, s2, q, b⟩
  have D0 := Lib.hid q
  have S1D0 := Lib.hid s1
  have ZD0 := Lib.hid b.size
  have BB := Lib.hid b
  clear b q s1 s2
  have Tw3 := Lib.hid (Tw2.out.trans ((BB.out).mono Tw2.out.size))
  have Uw3 := Lib.hid (Uw2.out.trans ((BB.out).mono Uw2.out.size))
  have SZw3 := Lib.hid (show w2.heap.size ≤ w3.heap.size from (BB.out).size)
  clear BB
  go_wp2_with fail
  obtain ⟨xD0, hwx⟩ : ∃ x, x = w3.alloc (.cells #[.slice (some ⟨bD0, 0, none⟩) n0 n0] 29) := ⟨_, rfl⟩
  rw [← hwx]
  have BB := Lib.hid (show Below w3.heap.size w3 xD0 by rw [hwx]; exact below_alloc _ _)
  have kx := Lib.hid (show xD0.cell? ⟨w3.heap.size, 0, none⟩ = some (.slice (some ⟨bD0, 0, none⟩) n0 n0) by rw [hwx]; exact cell_box _ _ _)
  have lx := Lib.hid (show w3.heap.size < xD0.heap.size by rw [hwx]; simp)
  clear hwx
  have TxD0 := Lib.hid (Tw3.out.trans ((BB.out).mono Tw3.out.size))
  have UxD0 := Lib.hid (Uw3.out.trans ((BB.out).mono Uw3.out.size))
  have D0 := Lib.hid (D0.out.below (BB.out) (Nat.le_refl _))
  have SZxD0 := Lib.hid (show w3.heap.size ≤ xD0.heap.size from (BB.out).size)
  have KXD0 := kx
  have LXD0 := lx
  clear kx lx BB
  have LYD0 := Lib.hid (show w3.heap.size < xD0.heap.size from LXD0.out)
  refine (HI.out _ _ _ (D0.out.rd) (TzTab.below (TzTab.below HP.out hG HWB.out) (Nat.lt_of_lt_of_le hG HWB.out.size) TxD0.out) (Nat.lt_of_lt_of_le (Nat.lt_of_lt_of_le hG HWB.out.size) TxD0.out.size)).mono ?_
  rintro e w4 ⟨ga, gc, rfl, q, b⟩
  have GR := Lib.hid q
  clear q
  have BB := Lib.hid b
  clear b
  have Tw4 := Lib.hid (TxD0.out.trans ((BB.out).mono TxD0.out.size))
  have Uw4 := Lib.hid (UxD0.out.trans ((BB.out).mono UxD0.out.size))
  have KXD0 := Lib.hid (((BB.out).cell (p := ⟨w3.heap.size, 0, none⟩) LXD0.out).trans KXD0.out)
  have LXD0 := Lib.hid (Nat.lt_of_lt_of_le LXD0.out (BB.out).size)
  have D0 := Lib.hid (D0.out.below (BB.out) (Nat.le_refl _))
  have SZw4 := Lib.hid (show xD0.heap.size ≤ w4.heap.size from (BB.out).size)
  clear BB
  go_wp2_with fail
  refine (eqInt64SS_f _ _ _ _ _ _ _ _ GR.out.rd (SR.out.below Uw4.out (Nat.le_refl _)) (by omega) (fun i hi => Nat.le_trans (HLL.out i hi) (by omega))).mono ?_
  rintro e w5 ⟨rfl, b⟩
  have BB := Lib.hid b
  clear b
  have Tw5 := Lib.hid (Tw4.out.trans ((BB.out).mono Tw4.out.size))
  have Uw5 := Lib.hid (Uw4.out.trans ((BB.out).mono Uw4.out.size))
  have KXD0 := Lib.hid (((BB.out).cell (p := ⟨w3.heap.size, 0, none⟩) LXD0.out).trans KXD0.out)
  have LXD0 := Lib.hid (Nat.lt_of_lt_of_le LXD0.out (BB.out).size)
  have D0 := Lib.hid (D0.out.below (BB.out) (Nat.le_refl _))
  have GR := Lib.hid (GR.out.below (BB.out) (Nat.le_refl _))
  clear BB
  have eB0 := Tw5.out.cell (p := ⟨w.heap.size, 0, none⟩) LB0.out
  rw [EB0.out] at eB0
  have eXD0 := KXD0.out
  go_wp2_with fail
  go_region_held3 (fun u => u.cell? ⟨w.heap.size, 0, none⟩ = some (.slice a0 n0 c0) ∧ u.cell? ⟨w3.heap.size, 0, none⟩ = some (.slice (some ⟨bD0, 0, none⟩) n0 n0)) (first | exact ⟨eB0, eXD0⟩ | exact KA.out | exact KC.out) (first | (go_at_call 6; refine (toRing_f _ _ _ M0 L0 f0 _ (R0.out.below (by first | exact Tw5.out.drew | exact Tw5.out) (Nat.le_refl _)) B0.out.1 Q0.out Y0.out).mono ?_; rintro e w6 ⟨loE, bE, rfl, s1, s2, q, b⟩; have BB := Lib.hid (show Below w5.heap.size w5 w6 from ⟨b.os, b.tape, b.output, b.size, b.block⟩); have EE := Lib.hid q; have DE := Lib.hid (D0.out.below BB.out (Nat.le_refl _)); have KA := Lib.hid (show w6.cell? ⟨w.heap.size, 0, none⟩ = some (.slice a0 n0 c0) ∧ w6.cell? ⟨w3.heap.size, 0, none⟩ = some (.slice (some ⟨bD0, 0, none⟩) n0 n0) from ⟨(BB.out.cell (p := ⟨w.heap.size, 0, none⟩) (by have := Tw5.out.size; have := LB0.out; show w.heap.size < _; omega)).trans eB0, (BB.out.cell (p := ⟨w3.heap.size, 0, none⟩) (by have := LXD0.out; show w3.heap.size < _; omega)).trans eXD0⟩); clear q b s1 s2) | (go_at_call 9; refine (eqRing_f _ _ _ _ _ _ _ _ _ DE.out.rd EE.out.rd (Nat.le_trans B0.out.1 (by omega)) (fun i hi => Nat.le_trans (Q0.out i hi) (by omega)) (fun i hi j hj => Nat.le_trans (Y0.out i hi j hj) (by omega))).mono ?_; rintro e w7 ⟨rfl, b⟩; have BC := Lib.hid (BB.out.trans (b.mono BB.out.size)); have KC := Lib.hid (show w7.cell? ⟨w.heap.size, 0, none⟩ = some (.slice a0 n0 c0) ∧ w7.cell? ⟨w3.heap.size, 0, none⟩ = some (.slice (some ⟨bD0, 0, none⟩) n0 n0) from ⟨(BC.out.cell (p := ⟨w.heap.size, 0, none⟩) (by have := Tw5.out.size; have := LB0.out; show w.heap.size < _; omega)).trans eB0, (BC.out.cell (p := ⟨w3.heap.size, 0, none⟩) (by have := LXD0.out; show w3.heap.size < _; omega)).trans eXD0⟩); clear b))
  clear eB0 eXD0
  have Tw7 := Lib.hid (Tw5.out.trans ((BC.out).mono Tw5.out.size))
  have Uw7 := Lib.hid (Uw5.out.trans ((BC.out).mono Uw5.out.size))
  have KXD0 := Lib.hid (((BC.out).cell (p := ⟨w3.heap.size, 0, none⟩) LXD0.out).trans KXD0.out)
  have LXD0 := Lib.hid (Nat.lt_of_lt_of_le LXD0.out (BC.out).size)
  have D0 := Lib.hid (D0.out.below (BC.out) (Nat.le_refl _))
  have GR := Lib.hid (GR.out.below (BC.out) (Nat.le_refl _))
  clear BC BB EE DE KA KC
  have eXD0 := KXD0.out
  go_wp2_with fail
  clear eXD0
  have MK0 := Lib.hid (show Calls Tryd.prog 10 #[.agg #[.slice (some ⟨bD0, 0, none⟩) n0 n0], .int .i64 ((1 : Int))] w7 fun e w' => e = .returned (.int .i64 (((1 : Int)) + (p0 : Int))) ∧ ∃ o, Only (fun k => w2.heap.size ≤ k ∧ k < w3.heap.size) (w7.alloc o) w' from by rw [P0.out]; exact (markRing_f _ _ _ _ _ _ _ _ _ _ D0.out (Nat.le_trans B0.out.1 (by omega)) (fun i hi => Nat.le_trans (Q0.out i hi) (by omega)) (by rw [← P0.out]; omega) (by omega) (by omega)).mono fun _ _ h => ⟨h.1, h.2.2.imp fun _ ho => ho.mono fun k hk => ⟨by have := S1D0.out; have := hk.1; omega, hk.2⟩⟩)
  refine MK0.out.mono ?_
  rintro e w8 ⟨rfl, oo, ho⟩
  obtain ⟨w8m, hwm⟩ : ∃ x, x = w7.alloc oo := ⟨_, rfl⟩
  rw [← hwm] at ho
  have BB := Lib.hid (show Below w7.heap.size w7 w8m by rw [hwm]; exact below_alloc _ _)
  clear hwm
  have Tw8m := Lib.hid (Tw7.out.trans ((BB.out).mono Tw7.out.size))
  have Uw8m := Lib.hid (Uw7.out.trans ((BB.out).mono Uw7.out.size))
  have KXD0 := Lib.hid (((BB.out).cell (p := ⟨w3.heap.size, 0, none⟩) LXD0.out).trans KXD0.out)
  have LXD0 := Lib.hid (Nat.lt_of_lt_of_le LXD0.out (BB.out).size)
  have D0 := Lib.hid (D0.out.below (BB.out) (Nat.le_refl _))
  have GR := Lib.hid (GR.out.below (BB.out) (Nat.le_refl _))
  clear BB
  have OO := Lib.hid ho
  clear ho
  have BO := Lib.hid (OO.out.below (B := w2.heap.size) (fun k hk => by have z0_ := SZw3.out; have z1_ := SZxD0.out; have z2_ := LYD0.out; have z3_ := SZw4.out; have := hk.1; omega))
  have Tw8 := Lib.hid (Tw8m.out.trans (BO.out.mono Tw2.out.size))
  have Uw8 := Lib.hid (Uw8m.out.trans (BO.out.mono Uw2.out.size))
  clear BO
  have GR := Lib.hid (GR.out.only OO.out (fun k hk => by have z0_ := SZw3.out; have z1_ := SZxD0.out; have z2_ := LYD0.out; have z3_ := SZw4.out; have h2 := hk.2; omega))
  clear OO D0 MK0
  go_wp2_with fail
  refine (eqInt64SS_f _ _ _ _ _ _ _ _ GR.out.rd (SR.out.below Uw8.out (Nat.le_refl _)) (by omega) (fun i hi => Nat.le_trans (HLL.out i hi) (by omega))).mono ?_
  rintro e w9 ⟨rfl, b⟩
  have BB := Lib.hid b
  clear b
  have Tw9 := Lib.hid (Tw8.out.trans ((BB.out).mono Tw8.out.size))
  have Uw9 := Lib.hid (Uw8.out.trans ((BB.out).mono Uw8.out.size))
  have GR := Lib.hid (GR.out.below (BB.out) (Nat.le_refl _))
  clear BB
  go_wp2_with fail
  have MG := Lib.hid (show Calls Tryd.prog 11 #[.slice ga N gc, .int .i64 1] w9 fun e w' => e = .returned (.int .i64 (1 + (pn : Int))) ∧ OwnM w' xD0.heap.size ga N LL (fun i j => (1 : Int) + (pre LL i : Nat) + j) ∧ Only (fun k => xD0.heap.size ≤ k ∧ k < w9.heap.size) w9 w' from by rw [PN.out]; exact markInt64SS_own _ _ _ _ _ _ _ _ GR.out (by omega) (by rw [← PN.out]; omega) (by omega) (by omega))
  refine MG.out.mono ?_
  rintro e w10 ⟨rfl, q, ho⟩
  have GM := Lib.hid q
  have OO := Lib.hid ho
  clear q ho GR MG
  have BO := Lib.hid (OO.out.below (B := xD0.heap.size) (fun k hk => by have z0_ := SZw3.out; have z1_ := SZxD0.out; have z2_ := LYD0.out; have z3_ := SZw4.out; have := hk.1; omega))
  have Tw10 := Lib.hid (Tw9.out.trans (BO.out.mono TxD0.out.size))
  have Uw10 := Lib.hid (Uw9.out.trans (BO.out.mono UxD0.out.size))
  clear BO
  clear OO
  go_wp2_with fail
  have HG := Lib.hid (show Calls Tryd.prog 12 #[.slice ga N gc, .int .i64 1] w10 fun e w' => e = .returned (.int .i64 (1 + (pn : Int))) ∧ w10 = w' from by rw [PN.out]; exact heldInt64SS_f _ _ _ _ _ _ GM.out.rd (by omega) (by rw [← PN.out]; omega) (by omega) (by omega))
  refine HG.out.mono ?_
  rintro e w' ⟨rfl, rfl⟩
  clear HG
  have eB0 := Tw10.out.cell (p := ⟨w.heap.size, 0, none⟩) LB0.out
  rw [EB0.out] at eB0
  go_wp2_with fail
  clear eB0
  refine (toRing_f _ _ _ M0 L0 f0 _ (R0.out.below Tw10.out (Nat.le_refl _)) B0.out.1 Q0.out Y0.out).mono ?_
  rintro e w11 ⟨loH0, bH0, rfl, s1, s2, q, b⟩
  have H0 := Lib.hid q
  have S1H0 := Lib.hid s1
  have ZH0 := Lib.hid b.size
  have BB := Lib.hid b
  clear b q s1 s2
  have Tw11 := Lib.hid (Tw10.out.trans ((BB.out).mono Tw10.out.size))
  have Uw11 := Lib.hid (Uw10.out.trans ((BB.out).mono Uw10.out.size))
  have GM := Lib.hid (GM.out.below (BB.out) (Nat.le_refl _))
  clear BB
  go_wp2_with fail
  refine (HI.out _ _ _ (H0.out.rd) (TzTab.below (TzTab.below HP.out hG HWB.out) (Nat.lt_of_lt_of_le hG HWB.out.size) Tw11.out) (Nat.lt_of_lt_of_le (Nat.lt_of_lt_of_le hG HWB.out.size) Tw11.out.size)).mono ?_
  rintro e w12 ⟨ha, hc, rfl, q, b⟩
  have HR := Lib.hid q.rd
  have BB := Lib.hid b
  clear q b
  have Tw12 := Lib.hid (Tw11.out.trans ((BB.out).mono Tw11.out.size))
  have Uw12 := Lib.hid (Uw11.out.trans ((BB.out).mono Uw11.out.size))
  have GM := Lib.hid (GM.out.below (BB.out) (Nat.le_refl _))
  clear BB
  go_wp2_with fail
  refine (eqInt64SS_f _ _ _ _ _ _ _ _ HR.out (SR.out.below Uw12.out (Nat.le_refl _)) (by omega) (fun i hi => Nat.le_trans (HLL.out i hi) (by omega))).mono ?_
  rintro e w13 ⟨rfl, b⟩
  have BB := Lib.hid b
  clear b
  have Tw13 := Lib.hid (Tw12.out.trans ((BB.out).mono Tw12.out.size))
  have Uw13 := Lib.hid (Uw12.out.trans ((BB.out).mono Uw12.out.size))
  have GM := Lib.hid (GM.out.below (BB.out) (Nat.le_refl _))
  clear BB
  go_wp2_with fail
  have HG := Lib.hid (show Calls Tryd.prog 12 #[.slice ga N gc, .int .i64 1] w13 fun e w' => e = .returned (.int .i64 (1 + (pn : Int))) ∧ w13 = w' from by rw [PN.out]; exact heldInt64SS_f _ _ _ _ _ _ GM.out.rd (by omega) (by rw [← PN.out]; omega) (by omega) (by omega))
  refine HG.out.mono ?_
  rintro e w' ⟨rfl, rfl⟩
  clear HG
  go_wp2_with fail
  go_ret
  exact ⟨rfl, HWB.out.trans (Tw13.out.mono HWB.out.size)⟩


set_option maxRecDepth 100000 in
theorem contract (H : Type) (enc : TypeId × Value → H) (W : World) (base : Nat) (args : Array Value) (ds gs : List (DataW H)) (before : List MemPlace)
    (hval : ∀ (j : Nat) t v, Tryd.f3.params[j]? = some t → args[j]? = some v → Value.okWide Tryd.prog W .any base t v)
    (hW : DataW.Whole enc Tryd.prog Tryd.f3.params.toList Rows.fnExactGradingGroupSpec.vars false W args.toList ds gs before) (hL : laidMetH Tryd.prog Rows.fnExactGradingGroupRow.laid W) :
    Calls Tryd.prog 3 args W fun e W' => ∃ v, e = .returned v ∧ Rows.fnExactGradingGroupSpec.post enc Tryd.prog Tryd.f3 false true false false W args v W' := by
  have hW' := hW
  obtain ⟨p, q, hA0, hV, rfl, hfz, hnd⟩ := hW
  have hA : DataW.TrodAll enc Tryd.prog W 0 (fun _ => true) true Tryd.f3.params.toList args.toList ds p := hA0
  rw [Tryd.params3] at hA hval
  obtain ⟨v0, vs0, d0, ds0, p0, q0, hargs, rfl, rfl, h0, r0⟩ := trodAll_cons hA
  obtain ⟨rfl, rfl, rfl⟩ := trodAll_nil r0
  obtain rfl : args = #[v0] := by cases args; simp_all
  obtain ⟨rfl, rfl⟩ := trodVars_none hV
  obtain ⟨a0, n0, c0, rfl, hm0, M0, L0, f0, hx0, hy0, r1⟩ := RdRing_of_trod (hval 0 24 v0 rfl rfl) h0
  clear hA0
  have hT := table hL
  have hG := tz_lt hT
  refine (walk W a0 n0 c0 M0 L0 f0 hm0 hx0 hy0 r1 hT hG).mono fun e W' ⟨he, hg'⟩ => ?_
  subst he
  refine ⟨_, rfl, _, _, _, [], (p0 ++ []), [], hW', ?_, ?_, rfl, hg'.frame _, fun h => by cases h⟩
  · exact (trodAll_cons_mk (shut_bool Tryd.underlying4 _) trodAll_mk0)
  · exact (trodAll_cons_mk (Below.trod laidOut (by kernel_rfl) (of_decide_eq_true (by kernel_rfl)) h0 hg' (fun x hx => hW'.lt x (by simp [hx]))) trodAll_mk0)

noncomputable def laidWorld (os : Os) : World :=
  let w0 := World.holding Tryd.prog os ⟨#[], #[], []⟩
  { w0 with heap := w0.heap.modify 0 fun
      | .cells _ t frozen => .cells #[.int .u8 0, .int .u8 1, .int .u8 56, .int .u8 2, .int .u8 57, .int .u8 49, .int .u8 28, .int .u8 3, .int .u8 61, .int .u8 58, .int .u8 42, .int .u8 50, .int .u8 38, .int .u8 29, .int .u8 17, .int .u8 4, .int .u8 62, .int .u8 47, .int .u8 59, .int .u8 36, .int .u8 45, .int .u8 43, .int .u8 51, .int .u8 22, .int .u8 53, .int .u8 39, .int .u8 33, .int .u8 30, .int .u8 24, .int .u8 18, .int .u8 12, .int .u8 5, .int .u8 63, .int .u8 55, .int .u8 48, .int .u8 27, .int .u8 60, .int .u8 41, .int .u8 37, .int .u8 16, .int .u8 46, .int .u8 35, .int .u8 44, .int .u8 21, .int .u8 52, .int .u8 32, .int .u8 23, .int .u8 11, .int .u8 54, .int .u8 26, .int .u8 40, .int .u8 15, .int .u8 34, .int .u8 20, .int .u8 31, .int .u8 10, .int .u8 25, .int .u8 14, .int .u8 19, .int .u8 9, .int .u8 13, .int .u8 8, .int .u8 7, .int .u8 6] t frozen
      | o => o }
theorem laid_met (os : Os) : laidMet Tryd.prog Rows.fnExactGradingGroupRow.laid ((laidWorld os).forCall (fun _ _ => 0) ⟨#[], #[.agg #[.slice none 0 0]], []⟩).memory :=
  laidMet_of_run' 8 (by kernel_rfl) (by kernel_rfl)
theorem reads (os : Os) {H : Type} (enc : TypeId × Value → H) : ∃ places, DataW.whole enc Tryd.prog ((laidWorld os).forCall (fun _ _ => 0) ⟨#[], #[.agg #[.slice none 0 0]], []⟩).memory Tryd.f3.params.toList Rows.fnExactGradingGroupSpec.vars false (#[.agg #[.slice none 0 0]] : Array Value).toList 8 = some ([.agg [.nil]], [], places) :=
  ⟨[], by kernel_rfl⟩

set_option maxRecDepth 100000 in
theorem lifted (os : Os) (started : os.Started) (H : Type) (enc : TypeId × Value → H) (F : Stop.Interp) :
    ReturnsInHanded {} Tryd.checked os 3 .any ((OpenSpec.ofChange Rows.fnExactGradingGroupSpec).preRow enc Tryd.prog Tryd.f3 Rows.fnExactGradingGroupRow.domain false Rows.fnExactGradingGroupRow.laid) (((OpenSpec.ofChange Rows.fnExactGradingGroupSpec).at F).post enc Tryd.prog Tryd.f3 false true false false) := by
  obtain ⟨places, hx⟩ := reads os enc
  refine returnsInHanded_of_row (C := Tryd.checked) (s := OpenSpec.ofChange Rows.fnExactGradingGroupSpec) own started (by kernel_rfl) Tryd.func3
    (witness_row_at (enc := enc) (C := Tryd.checked) false (laidWorld os) #[.agg #[.slice none 0 0]] rfl (by kernel_rfl) (by kernel_rfl) (by kernel_rfl)
      (OpenSpec.preRow_of_cond 8 hx (by kernel_rfl) (fun k hk => by cases hk) (by kernel_rfl) (laid_met os))) ?_
  intro W base args ds gs before hval hW _ _ _ hL _ _
  exact contract H enc W base args ds gs before hval hW hL

theorem said : Rows.FnExactGradingGroupSaid :=
  OpenClaim.holds_of_cond 3 Tryd.f3 rfl rfl rfl rfl rfl rfl rfl ⟨rfl, rfl, rfl, rfl, rfl⟩ rfl rfl rfl rfl rfl (by kernel_rfl) Tryd.func3 (by kernel_rfl)
    (of_decide_eq_true (by kernel_rfl)) (by unfold Func.isWrapper; first | (rw [if_pos (by decide +kernel)]; kernel_rfl) | (rw [if_neg (by decide +kernel)]; exact ⟨rfl, rfl⟩))
    (fun os started H enc _ F => by rw [OpenClaim.pre_eq_preRow]; exact lifted os started H enc F)

theorem plain (f : FuncId) (fn : Func) (hf : Tryd.pinned.checked.prog.funcNamed "loop.example/g01132/laws.FnExactGradingGroup" = some f) (hfn : Tryd.pinned.checked.prog.funcs[f]? = some fn) :
    false = Tryd.pinned.checked.prog.looks [] ∧ ∀ (j : Nat) t, fn.params[j]? = some t → Tryd.pinned.checked.prog.wantsStandIn t = false := by
  obtain rfl : f = 3 := Option.some.inj ((show Tryd.prog.funcNamed "loop.example/g01132/laws.FnExactGradingGroup" = some 3 by kernel_rfl).symm.trans hf) |>.symm
  obtain rfl : fn = Tryd.f3 := (Option.some.inj (Tryd.func3.symm.trans hfn)).symm
  refine ⟨by kernel_rfl, fun j t ht => ?_⟩
  rw [Tryd.params3] at ht
  obtain rfl : t = 24 := by simpa using Array.mem_of_getElem? ht
  exact (show Tryd.prog.wantsStandIn 24 = false by kernel_rfl)

theorem proved : Rows.FnExactGradingGroupCardSaid :=
  Claim7.holds_tied_plain_at .later [] _ _ _ _ said (fun _ h => by cases h) (by kernel_rfl) (fun _ h => by cases h) fnExactGradingGroup_row_tie rfl ⟨rfl, rfl⟩ (by kernel_rfl) rfl plain (by kernel_rfl)
end Go.Proofs.YtpfodikmidgpmaaDoor.fnExactGradingGroup
