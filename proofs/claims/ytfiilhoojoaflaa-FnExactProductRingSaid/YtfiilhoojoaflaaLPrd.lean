/- 'FnExactProductRing': for all arguments the law answers true. No further condition. -/
import Derived.Test.YtfiilhoojoaflaaRows
import Derived.Test.YtfiilhoojoaflaaPrB
import Derived.Deep.RegionHeld3
import Derived.Deep.Cut
import Derived.OpenShut
import Derived.Carry
namespace Go.Proofs.Ytfiilhoojoaflaa.fnExactProductRing
open Go.ChangeShapes Go.WideShapes Go.ChangeAt Go.RowKit
set_option linter.unusedVariables false

theorem own : ownKnob Try.prog.godebug = none := by kernel_rfl
theorem laidOut : laidOutB Try.prog = true := by kernel_rfl
set_option maxHeartbeats 4000000 in
set_option maxRecDepth 100000 in
theorem walk (w : World) (a0 : Option Addr) (n0 c0 : Nat) (M0 : Nat → Nat) (L0 : Nat → Nat → Nat) (f0 : Nat → Nat → Nat → Int) (hm0 : n0 ≤ maxLen) (hx0 : ∀ i, i < n0 → M0 i ≤ maxLen) (hy0 : ∀ i, i < n0 → ∀ j, j < M0 i → L0 i j ≤ maxLen) (r0 : RdT w a0 n0 M0 L0 f0) (a1 : Option Addr) (n1 c1 : Nat) (M1 : Nat → Nat) (L1 : Nat → Nat → Nat) (f1 : Nat → Nat → Nat → Int) (hm1 : n1 ≤ maxLen) (hx1 : ∀ i, i < n1 → M1 i ≤ maxLen) (hy1 : ∀ i, i < n1 → ∀ j, j < M1 i → L1 i j ≤ maxLen) (r1 : RdT w a1 n1 M1 L1 f1) :
    Calls Try.prog 11 #[.agg #[.slice a0 n0 c0], .agg #[.slice a1 n1 c1]] w fun e w' => e = .returned (.bool true) ∧ Below w.heap.size w w' := by
  have R0 := Lib.hid r0
  clear r0
  have X0 := Lib.hid hx0
  clear hx0
  have Y0 := Lib.hid hy0
  clear hy0
  have R1 := Lib.hid r1
  clear r1
  have X1 := Lib.hid hx1
  clear hx1
  have Y1 := Lib.hid hy1
  clear hy1
  obtain ⟨wb, hwb⟩ : ∃ x, x = (w.alloc (.cells #[.slice a0 n0 c0] 24)).alloc (.cells #[.slice a1 n1 c1] 24) := ⟨_, rfl⟩
  have HWB := Lib.hid (show Below w.heap.size w wb by rw [hwb]; exact (((Below.refl w.heap.size w).alloc (by exact Nat.le_refl _) _).alloc (by simp; try omega) _))
  have EB0 := Lib.hid (show wb.cell? ⟨w.heap.size, 0, none⟩ = some (.slice a0 n0 c0) by rw [hwb]; exact by first | exact cell_box _ _ _ | (rw [World.cell?_alloc_past _ _ _ (by simp)]; exact cell_box _ _ _) | (have h9 := cell_box (w.alloc (.cells #[.slice a0 n0 c0] 24)) (.slice a0 n0 c0) 24; simp only [World.size_alloc] at h9; exact h9))
  have LB0 := Lib.hid (show w.heap.size < wb.heap.size by rw [hwb]; simp; try omega)
  have EB1 := Lib.hid (show wb.cell? ⟨w.heap.size + 1, 0, none⟩ = some (.slice a1 n1 c1) by rw [hwb]; exact by first | exact cell_box _ _ _ | (rw [World.cell?_alloc_past _ _ _ (by simp)]; exact cell_box _ _ _) | (have h9 := cell_box (w.alloc (.cells #[.slice a0 n0 c0] 24)) (.slice a1 n1 c1) 24; simp only [World.size_alloc] at h9; exact h9))
  have LB1 := Lib.hid (show w.heap.size + 1 < wb.heap.size by rw [hwb]; simp; try omega)
  have WBE := Lib.hid hwb
  clear hwb
  have R0 := Lib.hid (R0.out.below HWB.out (Nat.le_refl _))
  have R1 := Lib.hid (R1.out.below HWB.out (Nat.le_refl _))
  obtain ⟨v0, hv0⟩ : ∃ v, v = szLeft n0 (cnt M0 L0) (1048576 : Int) := ⟨_, rfl⟩
  have S0 : Hid (∀ u, Below wb.heap.size wb u → Calls Try.prog 12 #[.agg #[.slice a0 n0 c0], .int .i64 1048576] u fun e w' => e = .returned (.int .i64 v0) ∧ Below wb.heap.size wb w') := Lib.hid fun u hu => by
    rw [hv0]; exact (szRing_f a0 n0 c0 M0 L0 f0 _ u (R0.out.below hu (Nat.le_refl _)) hm0 X0.out Y0.out (by omega) (by omega)).mono fun _ _ h => ⟨h.1, hu.trans (h.2.mono hu.size)⟩
  have V0 := Lib.hid hv0
  clear hv0
  by_cases hs0 : v0 < 0
  · have hds0 : decide (v0 < 0) = true := by simp; omega
    go_enter Try.func11, Try.ntmps11
    go_wp2_with fail
    rw [← WBE.out]
    refine (S0.out _ (Below.refl _ _)).mono ?_
    rintro e z0 ⟨rfl, hz0⟩
    have ZB0 := Lib.hid hz0
    clear hz0
    go_wp2_with fail
    go_ret
    exact ⟨rfl, HWB.out.trans ((ZB0.out).mono HWB.out.size)⟩
  have hds0 : decide (v0 < 0) = false := by simp; omega
  have hz0 := szLeft_pos (n := n0) (L := (cnt M0 L0)) (l := (1048576 : Int)) (by rw [← V0.out]; exact hs0)
  rw [← V0.out] at hz0
  obtain ⟨hza0, hzb0⟩ := hz0
  have B0 := Lib.hid (show n0 ≤ 1048576 ∧ pre (cnt M0 L0) n0 ≤ 1048576 from ⟨by omega, by omega⟩)
  have hb0 : 0 ≤ v0 ∧ v0 ≤ 1048576 := ⟨by omega, by omega⟩
  have Q0 := Lib.hid (show ∀ i, i < n0 → M0 i ≤ 1048576 from fun i hi => Nat.le_trans (Nat.le_add_right _ _) (Nat.le_trans (pre_at (cnt M0 L0) hi) B0.out.2))
  have Y0 := Lib.hid (show ∀ i, i < n0 → ∀ j, j < M0 i → L0 i j ≤ 1048576 from fun i hi j hj => Nat.le_trans (pre_at (L0 i) hj) (Nat.le_trans (Nat.le_add_left _ _) (Nat.le_trans (pre_at (cnt M0 L0) hi) B0.out.2)))
  obtain ⟨v1, hv1⟩ : ∃ v, v = szLeft n1 (cnt M1 L1) v0 := ⟨_, rfl⟩
  have S1 : Hid (∀ u, Below wb.heap.size wb u → Calls Try.prog 12 #[.agg #[.slice a1 n1 c1], .int .i64 v0] u fun e w' => e = .returned (.int .i64 v1) ∧ Below wb.heap.size wb w') := Lib.hid fun u hu => by
    rw [hv1]; exact (szRing_f a1 n1 c1 M1 L1 f1 _ u (R1.out.below hu (Nat.le_refl _)) hm1 X1.out Y1.out (by omega) (by omega)).mono fun _ _ h => ⟨h.1, hu.trans (h.2.mono hu.size)⟩
  have V1 := Lib.hid hv1
  clear hv1
  by_cases hs1 : v1 < 0
  · have hds1 : decide (v1 < 0) = true := by simp; omega
    go_enter Try.func11, Try.ntmps11
    go_wp2_with fail
    rw [← WBE.out]
    refine (S0.out _ (Below.refl _ _)).mono ?_
    rintro e z0 ⟨rfl, hz0⟩
    have ZB0 := Lib.hid hz0
    clear hz0
    have eB1 := (ZB0.out).cell (p := ⟨w.heap.size + 1, 0, none⟩) LB1.out
    rw [EB1.out] at eB1
    go_wp2_with fail
    clear eB1
    refine (S1.out _ (ZB0.out)).mono ?_
    rintro e z1 ⟨rfl, hz1⟩
    have ZB1 := Lib.hid hz1
    clear hz1
    go_wp2_with fail
    go_ret
    exact ⟨rfl, HWB.out.trans ((ZB1.out).mono HWB.out.size)⟩
  have hds1 : decide (v1 < 0) = false := by simp; omega
  have hz1 := szLeft_pos (n := n1) (L := (cnt M1 L1)) (l := v0) (by rw [← V1.out]; exact hs1)
  rw [← V1.out] at hz1
  obtain ⟨hza1, hzb1⟩ := hz1
  have B1 := Lib.hid (show n1 ≤ 1048576 ∧ pre (cnt M1 L1) n1 ≤ 1048576 from ⟨by omega, by omega⟩)
  have hb1 : 0 ≤ v1 ∧ v1 ≤ 1048576 := ⟨by omega, by omega⟩
  have Q1 := Lib.hid (show ∀ i, i < n1 → M1 i ≤ 1048576 from fun i hi => Nat.le_trans (Nat.le_add_right _ _) (Nat.le_trans (pre_at (cnt M1 L1) hi) B1.out.2))
  have Y1 := Lib.hid (show ∀ i, i < n1 → ∀ j, j < M1 i → L1 i j ≤ 1048576 from fun i hi j hj => Nat.le_trans (pre_at (L1 i) hj) (Nat.le_trans (Nat.le_add_left _ _) (Nat.le_trans (pre_at (cnt M1 L1) hi) B1.out.2)))
  have pair : ∃ (N : Nat) (MM : Nat → Nat) (LL : Nat → Nat → Nat) (FF : Nat → Nat → Nat → Int) (cd : Int), N ≤ 64 ∧ (∀ i, i < N → MM i ≤ 64) ∧ (∀ i, i < N → ∀ j, j < MM i → LL i j ≤ 64) ∧ (∀ (x0 : Option Addr) (y0 : Nat) (x1 : Option Addr) (y1 : Nat) (u : World), RdT u x0 n0 M0 L0 f0 → RdT u x1 n1 M1 L1 f1 → Calls Try.prog 37 #[.agg #[.slice x0 n0 y0], .agg #[.slice x1 n1 y1]] u (RingRes u N MM LL FF cd)) ∧ (∀ (x0 : Option Addr) (y0 : Nat) (x1 : Option Addr) (y1 : Nat) (u : World), RdT u x0 n0 M0 L0 f0 → RdT u x1 n1 M1 L1 f1 → Calls Try.prog 38 #[.agg #[.slice x0 n0 y0], .agg #[.slice x1 n1 y1]] u (RingRes u N MM LL FF cd)) := by
    refine ⟨_, _, _, _, _, ?b1, ?b2, ?b3, fun x0 y0 x1 y1 u z0 z1 => specPrd_f x0 n0 y0 M0 L0 f0 x1 n1 y1 M1 L1 f1 u z0 B0.out.1 Q0.out Y0.out z1 B1.out.1 Q1.out Y1.out, fun x0 y0 x1 y1 u z0 z1 => implPrd_f x0 n0 y0 M0 L0 f0 x1 n1 y1 M1 L1 f1 u z0 B0.out.1 Q0.out Y0.out z1 B1.out.1 Q1.out Y1.out⟩
    case b1 => exact implPrd_f_rows n0 M0 L0 f0 n1 M1 L1 f1
    case b2 => exact implPrd_f_cols n0 M0 L0 f0 n1 M1 L1 f1
    case b3 => exact implPrd_f_deep n0 M0 L0 f0 n1 M1 L1 f1
  obtain ⟨N, MM, LL, FF, cd, hN, hMM, hLL, hS, hI⟩ := pair
  have HS := Lib.hid hS
  have HI := Lib.hid hI
  clear hS hI
  have hcd : (cd != cd) = false := by simp
  have hpr := sum3_bd hN hMM hLL
  have HMM := Lib.hid hMM
  have HLL := Lib.hid hLL
  clear hMM hLL
  obtain ⟨pn, hpn⟩ : ∃ pn, pn = sum3 MM LL N := ⟨_, rfl⟩
  rw [← hpn] at hpr
  have hpr' : pn ≤ 262144 := by omega
  have PN := Lib.hid hpn
  clear hpn hpr
  have hq0 : decide ((1 : Int) + (pn : Int) < 0) = false := by simp; omega
  have hq1 : ((1 : Int) + (pn : Int) != (1 : Int) + (pn : Int)) = false := by simp
  obtain ⟨p0, hp0⟩ : ∃ p, p = sum3 M0 L0 n0 := ⟨_, rfl⟩
  have hpb0 : p0 ≤ 1048576 := by rw [hp0]; exact Nat.le_trans (sum3_le _ _ _) (B0.out.2)
  have P0 := Lib.hid hp0
  clear hp0
  obtain ⟨p1, hp1⟩ : ∃ p, p = sum3 M1 L1 n1 := ⟨_, rfl⟩
  have hpb1 : p1 ≤ 1048576 := by rw [hp1]; exact Nat.le_trans (sum3_le _ _ _) (B1.out.2)
  have P1 := Lib.hid hp1
  clear hp1
  have hk0 : decide ((1 : Int) + (p0 : Int) + (p1 : Int) < 0) = false := by simp; omega
  go_enter Try.func11, Try.ntmps11
  go_wp2_with fail
  rw [← WBE.out]
  refine (S0.out _ (Below.refl _ _)).mono ?_
  rintro e z0 ⟨rfl, hz0⟩
  have ZB0 := Lib.hid hz0
  clear hz0
  have eB1 := ZB0.out.cell (p := ⟨w.heap.size + 1, 0, none⟩) LB1.out
  rw [EB1.out] at eB1
  go_wp2_with fail
  clear eB1
  refine (S1.out _ (ZB0.out)).mono ?_
  rintro e z1 ⟨rfl, hz1⟩
  have ZB1 := Lib.hid hz1
  clear hz1
  have KZ := Lib.hid (fun u (hu : Below z1.heap.size z1 u) => show u.cell? ⟨w.heap.size, 0, none⟩ = some (.slice a0 n0 c0) ∧ u.cell? ⟨w.heap.size + 1, 0, none⟩ = some (.slice a1 n1 c1) from ⟨(hu.cell (p := ⟨w.heap.size, 0, none⟩) (Nat.lt_of_lt_of_le LB0.out ZB1.out.size)).trans (by have := ZB1.out.cell (p := ⟨w.heap.size, 0, none⟩) LB0.out; rw [EB0.out] at this; exact this), (hu.cell (p := ⟨w.heap.size + 1, 0, none⟩) (Nat.lt_of_lt_of_le LB1.out ZB1.out.size)).trans (by have := ZB1.out.cell (p := ⟨w.heap.size + 1, 0, none⟩) LB1.out; rw [EB1.out] at this; exact this)⟩)
  have TZ := Lib.hid (fun u (hu : Below z1.heap.size z1 u) => ZB1.out.trans (hu.mono ZB1.out.size))
  have eB0 := (KZ.out _ (Below.refl _ _)).1
  have eB1 := (KZ.out _ (Below.refl _ _)).2
  go_wp2_with fail
  go_cut [6, 7] from 27 (fun p c wx => ∃ (B : Nat) (sa : Option Addr) (sc : Nat), p = .pointer (some ⟨B, 0, none⟩) ∧ c = .int .i64 cd ∧ B < wx.heap.size ∧ wx.cell? ⟨B, 0, none⟩ = some (.slice sa N sc) ∧ RdT wx sa N MM LL FF ∧ Below z1.heap.size z1 wx)
  case first =>
    go_region_held3 (fun u => u.cell? ⟨w.heap.size, 0, none⟩ = some (.slice a0 n0 c0) ∧ u.cell? ⟨w.heap.size + 1, 0, none⟩ = some (.slice a1 n1 c1)) (first | exact KZ.out _ (Below.refl _ _).drew | exact KZ.out _ ((Below.refl _ _).drew.alloc (Nat.le_refl _) _) | exact KZ.out _ Z1.out | exact KZ.out _ (Z1.out.alloc Z1.out.size _) | exact KZ.out _ Z2.out | exact KZ.out _ (Z2.out.alloc Z2.out.size _) | exact KZ.out _ Z3.out | exact KZ.out _ (Z3.out.alloc Z3.out.size _) | exact KZ.out _ (Z3.out.setCell (Nat.le_refl _) _) | exact KZ.out _ (Z3.out.setCell Z1.out.size _) | exact KZ.out _ (Z3.out.setCell Z2.out.size _) | exact KZ.out _ ((Z3.out.alloc Z3.out.size _).setCell Z3.out.size _)) (first | (have q9 := Z2.out; clear q9; go_at_call 37; refine (HS.out _ _ _ _ _ (by first | exact C0.out.rd | exact C0.out.rd.below (below_alloc _ _) (Nat.le_refl _)) (by first | exact C1.out.rd | exact C1.out.rd.below (below_alloc _ _) (Nat.le_refl _))).mono ?_; rintro e w3 ⟨sa, sc, rfl, q, b⟩; have SRq := Lib.hid q.rd; have W23 := Lib.hid (show Below w2.heap.size w2 w3 from by first | exact b | exact (below_alloc w2 _).trans (b.mono (by simp))); have Z3 := Lib.hid (Z2.out.trans (W23.out.mono Z2.out.size)); (first | (have HXa := Lib.hid (RowB.below HXa.out W23.out LXa.out); have HRa := Lib.hid (show RdT (w3.setCell ⟨z1.heap.size, 0, none⟩ (.slice sa N sc)) sa N MM LL FF from (q.only ((Only.refl (fun k => k = z1.heap.size) w3).setCell (p := ⟨z1.heap.size, 0, none⟩) rfl _) (fun k hk h => by have e9 : k = z1.heap.size := hk; have g9 := h.1; have l9 := LXa.out; omega)).rd); have LZa := Lib.hid (show z1.heap.size < (w3.setCell ⟨z1.heap.size, 0, none⟩ (.slice sa N sc)).heap.size by have h9 := RowB.lt HXa.out; simpa using h9); obtain ⟨e7, e8, e9⟩ := res_cells HXa.out (.slice sa N sc)) | (have HXb := Lib.hid (RowB.below HXb.out W23.out LXb.out); have HRb := Lib.hid (show RdT (w3.setCell ⟨w1.heap.size, 0, none⟩ (.slice sa N sc)) sa N MM LL FF from (q.only ((Only.refl (fun k => k = w1.heap.size) w3).setCell (p := ⟨w1.heap.size, 0, none⟩) rfl _) (fun k hk h => by have e9 : k = w1.heap.size := hk; have g9 := h.1; have l9 := LXb.out; omega)).rd); have LZb := Lib.hid (show w1.heap.size < (w3.setCell ⟨w1.heap.size, 0, none⟩ (.slice sa N sc)).heap.size by have h9 := RowB.lt HXb.out; simpa using h9); obtain ⟨e7, e8, e9⟩ := res_cells HXb.out (.slice sa N sc)) | (have HXc := Lib.hid (show RowB w3 29 w2.heap.size 1 (fun _ => .slice none 0 0) from RowB.below (row_one w2 (.slice none 0 0) 29) b (by simp)); have HRc := Lib.hid (show RdT (w3.setCell ⟨w2.heap.size, 0, none⟩ (.slice sa N sc)) sa N MM LL FF from (q.only ((Only.refl (fun k => k = w2.heap.size) w3).setCell (p := ⟨w2.heap.size, 0, none⟩) rfl _) (fun k hk h => by have e9 : k = w2.heap.size := hk; have g9 := h.1; simp at g9; omega)).rd); have LZc := Lib.hid (show w2.heap.size < (w3.setCell ⟨w2.heap.size, 0, none⟩ (.slice sa N sc)).heap.size by have h9 := RowB.lt HXc.out; simpa using h9); obtain ⟨e7, e8, e9⟩ := res_cells HXc.out (.slice sa N sc)) | skip); clear q b) | (have q9 := Z1.out; clear q9; go_at_call 14; refine (toRing_f _ _ _ M1 L1 f1 _ (R1.out.below (TZ.out _ (by first | exact Z1.out | exact Z1.out.alloc Z1.out.size _)) (Nat.le_refl _)) B1.out.1 Q1.out Y1.out).mono ?_; rintro e w2 ⟨loC1, bC1, rfl, s1, s2, q, b⟩; have C1 := Lib.hid q; have W12 := Lib.hid (show Below w1.heap.size w1 w2 from by first | exact b | exact (below_alloc w1 _).trans (b.mono (by simp))); have Z2 := Lib.hid (Z1.out.trans (W12.out.mono Z1.out.size)); have C0 := Lib.hid (C0.out.below W12.out (Nat.le_refl _)); (first | (have LXa := Lib.hid (Nat.lt_of_lt_of_le LXa.out W12.out.size); have HXa := Lib.hid (RowB.below HXa.out W12.out (RowB.lt HXa.out))) | (have HXb := Lib.hid (show RowB w2 29 w1.heap.size 1 (fun _ => .slice none 0 0) from RowB.below (row_one w1 (.slice none 0 0) 29) b (by simp)); have LXb := Lib.hid (show w1.heap.size < w2.heap.size from RowB.lt HXb.out)) | skip); clear q b s1 s2) | (go_at_call 14; refine (toRing_f _ _ _ M0 L0 f0 _ (R0.out.below (TZ.out _ (by first | exact (Below.refl _ _).drew | exact (Below.refl _ _).drew.alloc (Nat.le_refl _) _)) (Nat.le_refl _)) B0.out.1 Q0.out Y0.out).mono ?_; rintro e w1 ⟨loC0, bC0, rfl, s1, s2, q, b⟩; have C0 := Lib.hid q; have Z1 := Lib.hid (show Below z1.heap.size z1 w1 from by first | exact (Below.refl _ _).drew.trans (b.mono (Nat.le_refl _)) | exact ((Below.refl _ _).drew.alloc (Nat.le_refl _) _).trans (b.mono (by simp))); (first | (have HXa := Lib.hid (show RowB w1 29 z1.heap.size 1 (fun _ => .slice none 0 0) from RowB.below (row_one z1.drew (.slice none 0 0) 29) b (by simp)); have LXa := Lib.hid (show z1.heap.size < w1.heap.size from RowB.lt HXa.out)) | skip); clear q b s1 s2))
    all_goals
      clear eB0 eB1
      go_wp2_with fail
      go_meet
      first | exact ⟨w3.heap.size, sa, sc, rfl, rfl, by simp, cell_box _ _ _, SRq.out.below (below_alloc _ _) (Nat.le_refl _), Z3.out.alloc Z3.out.size _⟩ | exact ⟨z1.heap.size, sa, sc, rfl, rfl, LZa.out, e9, HRa.out, Z3.out.setCell (p := ⟨z1.heap.size, 0, none⟩) (Nat.le_refl _) _⟩ | exact ⟨w1.heap.size, sa, sc, rfl, rfl, LZb.out, e9, HRb.out, Z3.out.setCell (p := ⟨w1.heap.size, 0, none⟩) Z1.out.size _⟩ | exact ⟨w2.heap.size, sa, sc, rfl, rfl, LZc.out, e9, HRc.out, Z3.out.setCell (p := ⟨w2.heap.size, 0, none⟩) Z2.out.size _⟩
  case rest =>
  obtain ⟨BW, sa, sc, rfl, rfl, hBW, hcW, hrW, hbW⟩ := hcut
  obtain ⟨xW, hxW⟩ : ∃ x, x = wc := ⟨_, rfl⟩
  subst hxW
  have SR := Lib.hid hrW
  have TxW := Lib.hid (ZB1.out.trans (hbW.mono ZB1.out.size))
  have UxW := Lib.hid (Below.refl xW.heap.size xW)
  have SZxW := Lib.hid (show xW.heap.size ≤ xW.heap.size from Nat.le_refl _)
  have KXW := Lib.hid hcW
  have LXW := Lib.hid hBW
  clear hBW hcW hrW hbW KZ TZ
  have LYW := Lib.hid (show BW < xW.heap.size from LXW.out)
  have eB0 := TxW.out.cell (p := ⟨w.heap.size, 0, none⟩) LB0.out
  rw [EB0.out] at eB0
  go_wp2_with fail
  clear eB0
  refine (toRing_f _ _ _ M0 L0 f0 _ (R0.out.below TxW.out (Nat.le_refl _)) B0.out.1 Q0.out Y0.out).mono ?_
  rintro e w4 ⟨loD0, bD0, rfl, s1, s2, q, b⟩
  have D0 := Lib.hid q
  have S1D0 := Lib.hid s1
  have ZD0 := Lib.hid b.size
  have BB := Lib.hid b
  clear b q s1 s2
  have Tw4 := Lib.hid (TxW.out.trans ((BB.out).mono TxW.out.size))
  have Uw4 := Lib.hid (UxW.out.trans ((BB.out).mono UxW.out.size))
  have KXW := Lib.hid (((BB.out).cell (p := ⟨BW, 0, none⟩) LXW.out).trans KXW.out)
  have LXW := Lib.hid (Nat.lt_of_lt_of_le LXW.out (BB.out).size)
  have SZw4 := Lib.hid (show xW.heap.size ≤ w4.heap.size from (BB.out).size)
  clear BB
  have eB1 := (Tw4.out.trans ((below_alloc w4 (.cells #[.slice (some ⟨bD0, 0, none⟩) n0 n0] 29)).mono Tw4.out.size)).cell (p := ⟨w.heap.size + 1, 0, none⟩) LB1.out
  rw [EB1.out] at eB1
  go_wp2_with fail
  obtain ⟨xD0, hwx⟩ : ∃ x, x = w4.alloc (.cells #[.slice (some ⟨bD0, 0, none⟩) n0 n0] 29) := ⟨_, rfl⟩
  rw [← hwx]
  have BB := Lib.hid (show Below w4.heap.size w4 xD0 by rw [hwx]; exact below_alloc _ _)
  have kx := Lib.hid (show xD0.cell? ⟨w4.heap.size, 0, none⟩ = some (.slice (some ⟨bD0, 0, none⟩) n0 n0) by rw [hwx]; exact cell_box _ _ _)
  have lx := Lib.hid (show w4.heap.size < xD0.heap.size by rw [hwx]; simp)
  clear hwx
  have TxD0 := Lib.hid (Tw4.out.trans ((BB.out).mono Tw4.out.size))
  have UxD0 := Lib.hid (Uw4.out.trans ((BB.out).mono Uw4.out.size))
  have KXW := Lib.hid (((BB.out).cell (p := ⟨BW, 0, none⟩) LXW.out).trans KXW.out)
  have LXW := Lib.hid (Nat.lt_of_lt_of_le LXW.out (BB.out).size)
  have D0 := Lib.hid (D0.out.below (BB.out) (Nat.le_refl _))
  have SZxD0 := Lib.hid (show w4.heap.size ≤ xD0.heap.size from (BB.out).size)
  have KXD0 := kx
  have LXD0 := lx
  clear kx lx BB
  have LYD0 := Lib.hid (show w4.heap.size < xD0.heap.size from LXD0.out)
  clear eB1
  refine (toRing_f _ _ _ M1 L1 f1 _ (R1.out.below TxD0.out (Nat.le_refl _)) B1.out.1 Q1.out Y1.out).mono ?_
  rintro e w5 ⟨loD1, bD1, rfl, s1, s2, q, b⟩
  have D1 := Lib.hid q
  have S1D1 := Lib.hid s1
  have ZD1 := Lib.hid b.size
  have BB := Lib.hid b
  clear b q s1 s2
  have Tw5 := Lib.hid (TxD0.out.trans ((BB.out).mono TxD0.out.size))
  have Uw5 := Lib.hid (UxD0.out.trans ((BB.out).mono UxD0.out.size))
  have KXW := Lib.hid (((BB.out).cell (p := ⟨BW, 0, none⟩) LXW.out).trans KXW.out)
  have LXW := Lib.hid (Nat.lt_of_lt_of_le LXW.out (BB.out).size)
  have KXD0 := Lib.hid (((BB.out).cell (p := ⟨w4.heap.size, 0, none⟩) LXD0.out).trans KXD0.out)
  have LXD0 := Lib.hid (Nat.lt_of_lt_of_le LXD0.out (BB.out).size)
  have D0 := Lib.hid (D0.out.below (BB.out) (Nat.le_refl _))
  have SZw5 := Lib.hid (show xD0.heap.size ≤ w5.heap.size from (BB.out).size)
  clear BB
  have eXW := ((below_alloc w5 (.cells #[.slice (some ⟨bD1, 0, none⟩) n1 n1] 29)).cell (p := ⟨BW, 0, none⟩) LXW.out).trans KXW.out
  have eXD0 := ((below_alloc w5 (.cells #[.slice (some ⟨bD1, 0, none⟩) n1 n1] 29)).cell (p := ⟨w4.heap.size, 0, none⟩) LXD0.out).trans KXD0.out
  go_wp2_with fail
  obtain ⟨xD1, hwx⟩ : ∃ x, x = w5.alloc (.cells #[.slice (some ⟨bD1, 0, none⟩) n1 n1] 29) := ⟨_, rfl⟩
  rw [← hwx]
  have BB := Lib.hid (show Below w5.heap.size w5 xD1 by rw [hwx]; exact below_alloc _ _)
  have kx := Lib.hid (show xD1.cell? ⟨w5.heap.size, 0, none⟩ = some (.slice (some ⟨bD1, 0, none⟩) n1 n1) by rw [hwx]; exact cell_box _ _ _)
  have lx := Lib.hid (show w5.heap.size < xD1.heap.size by rw [hwx]; simp)
  clear hwx
  have TxD1 := Lib.hid (Tw5.out.trans ((BB.out).mono Tw5.out.size))
  have UxD1 := Lib.hid (Uw5.out.trans ((BB.out).mono Uw5.out.size))
  have KXW := Lib.hid (((BB.out).cell (p := ⟨BW, 0, none⟩) LXW.out).trans KXW.out)
  have LXW := Lib.hid (Nat.lt_of_lt_of_le LXW.out (BB.out).size)
  have KXD0 := Lib.hid (((BB.out).cell (p := ⟨w4.heap.size, 0, none⟩) LXD0.out).trans KXD0.out)
  have LXD0 := Lib.hid (Nat.lt_of_lt_of_le LXD0.out (BB.out).size)
  have D0 := Lib.hid (D0.out.below (BB.out) (Nat.le_refl _))
  have D1 := Lib.hid (D1.out.below (BB.out) (Nat.le_refl _))
  have SZxD1 := Lib.hid (show w5.heap.size ≤ xD1.heap.size from (BB.out).size)
  have KXD1 := kx
  have LXD1 := lx
  clear kx lx BB
  have LYD1 := Lib.hid (show w5.heap.size < xD1.heap.size from LXD1.out)
  clear eXW eXD0
  refine (HI.out _ _ _ _ _ (D0.out.rd) (D1.out.rd)).mono ?_
  rintro e w6 ⟨ga, gc, rfl, q, b⟩
  have GR := Lib.hid q
  clear q
  have BB := Lib.hid b
  clear b
  have Tw6 := Lib.hid (TxD1.out.trans ((BB.out).mono TxD1.out.size))
  have Uw6 := Lib.hid (UxD1.out.trans ((BB.out).mono UxD1.out.size))
  have KXW := Lib.hid (((BB.out).cell (p := ⟨BW, 0, none⟩) LXW.out).trans KXW.out)
  have LXW := Lib.hid (Nat.lt_of_lt_of_le LXW.out (BB.out).size)
  have KXD0 := Lib.hid (((BB.out).cell (p := ⟨w4.heap.size, 0, none⟩) LXD0.out).trans KXD0.out)
  have LXD0 := Lib.hid (Nat.lt_of_lt_of_le LXD0.out (BB.out).size)
  have KXD1 := Lib.hid (((BB.out).cell (p := ⟨w5.heap.size, 0, none⟩) LXD1.out).trans KXD1.out)
  have LXD1 := Lib.hid (Nat.lt_of_lt_of_le LXD1.out (BB.out).size)
  have D0 := Lib.hid (D0.out.below (BB.out) (Nat.le_refl _))
  have D1 := Lib.hid (D1.out.below (BB.out) (Nat.le_refl _))
  have SZw6 := Lib.hid (show xD1.heap.size ≤ w6.heap.size from (BB.out).size)
  clear BB
  have eXW := ((below_alloc w6 (.cells #[.slice ga N gc] 29)).cell (p := ⟨BW, 0, none⟩) LXW.out).trans KXW.out
  have eXD0 := ((below_alloc w6 (.cells #[.slice ga N gc] 29)).cell (p := ⟨w4.heap.size, 0, none⟩) LXD0.out).trans KXD0.out
  have eXD1 := ((below_alloc w6 (.cells #[.slice ga N gc] 29)).cell (p := ⟨w5.heap.size, 0, none⟩) LXD1.out).trans KXD1.out
  go_wp2_with fail
  obtain ⟨xG, hwx⟩ : ∃ x, x = w6.alloc (.cells #[.slice ga N gc] 29) := ⟨_, rfl⟩
  rw [← hwx]
  have BB := Lib.hid (show Below w6.heap.size w6 xG by rw [hwx]; exact below_alloc _ _)
  have kx := Lib.hid (show xG.cell? ⟨w6.heap.size, 0, none⟩ = some (.slice ga N gc) by rw [hwx]; exact cell_box _ _ _)
  have lx := Lib.hid (show w6.heap.size < xG.heap.size by rw [hwx]; simp)
  clear hwx
  have TxG := Lib.hid (Tw6.out.trans ((BB.out).mono Tw6.out.size))
  have UxG := Lib.hid (Uw6.out.trans ((BB.out).mono Uw6.out.size))
  have KXW := Lib.hid (((BB.out).cell (p := ⟨BW, 0, none⟩) LXW.out).trans KXW.out)
  have LXW := Lib.hid (Nat.lt_of_lt_of_le LXW.out (BB.out).size)
  have KXD0 := Lib.hid (((BB.out).cell (p := ⟨w4.heap.size, 0, none⟩) LXD0.out).trans KXD0.out)
  have LXD0 := Lib.hid (Nat.lt_of_lt_of_le LXD0.out (BB.out).size)
  have KXD1 := Lib.hid (((BB.out).cell (p := ⟨w5.heap.size, 0, none⟩) LXD1.out).trans KXD1.out)
  have LXD1 := Lib.hid (Nat.lt_of_lt_of_le LXD1.out (BB.out).size)
  have D0 := Lib.hid (D0.out.below (BB.out) (Nat.le_refl _))
  have D1 := Lib.hid (D1.out.below (BB.out) (Nat.le_refl _))
  have GR := Lib.hid (GR.out.below (BB.out) (Nat.le_refl _))
  have KXG := kx
  have LXG := lx
  clear kx lx BB
  clear eXW eXD0 eXD1
  refine (eqRing_f _ _ _ _ _ _ _ _ _ GR.out.rd (SR.out.below UxG.out (Nat.le_refl _)) (by omega) (fun i hi => Nat.le_trans (HMM.out i hi) (by omega)) (fun i hi j hj => Nat.le_trans (HLL.out i hi j hj) (by omega))).mono ?_
  rintro e w7 ⟨rfl, b⟩
  have BB := Lib.hid b
  clear b
  have Tw7 := Lib.hid (TxG.out.trans ((BB.out).mono TxG.out.size))
  have Uw7 := Lib.hid (UxG.out.trans ((BB.out).mono UxG.out.size))
  have KXW := Lib.hid (((BB.out).cell (p := ⟨BW, 0, none⟩) LXW.out).trans KXW.out)
  have LXW := Lib.hid (Nat.lt_of_lt_of_le LXW.out (BB.out).size)
  have KXD0 := Lib.hid (((BB.out).cell (p := ⟨w4.heap.size, 0, none⟩) LXD0.out).trans KXD0.out)
  have LXD0 := Lib.hid (Nat.lt_of_lt_of_le LXD0.out (BB.out).size)
  have KXD1 := Lib.hid (((BB.out).cell (p := ⟨w5.heap.size, 0, none⟩) LXD1.out).trans KXD1.out)
  have LXD1 := Lib.hid (Nat.lt_of_lt_of_le LXD1.out (BB.out).size)
  have KXG := Lib.hid (((BB.out).cell (p := ⟨w6.heap.size, 0, none⟩) LXG.out).trans KXG.out)
  have LXG := Lib.hid (Nat.lt_of_lt_of_le LXG.out (BB.out).size)
  have D0 := Lib.hid (D0.out.below (BB.out) (Nat.le_refl _))
  have D1 := Lib.hid (D1.out.below (BB.out) (Nat.le_refl _))
  have GR := Lib.hid (GR.out.below (BB.out) (Nat.le_refl _))
  clear BB
  have eB0 := Tw7.out.cell (p := ⟨w.heap.size, 0, none⟩) LB0.out
  rw [EB0.out] at eB0
  have eXD0 := KXD0.out
  go_wp2_with fail
  go_region_held3 (fun u => u.cell? ⟨w.heap.size, 0, none⟩ = some (.slice a0 n0 c0) ∧ u.cell? ⟨w4.heap.size, 0, none⟩ = some (.slice (some ⟨bD0, 0, none⟩) n0 n0)) (first | exact ⟨eB0, eXD0⟩ | exact KA.out | exact KC.out) (first | (go_at_call 14; refine (toRing_f _ _ _ M0 L0 f0 _ (R0.out.below (by first | exact Tw7.out.drew | exact Tw7.out) (Nat.le_refl _)) B0.out.1 Q0.out Y0.out).mono ?_; rintro e w8 ⟨loE, bE, rfl, s1, s2, q, b⟩; have BB := Lib.hid (show Below w7.heap.size w7 w8 from ⟨b.os, b.tape, b.output, b.size, b.block⟩); have EE := Lib.hid q; have DE := Lib.hid (D0.out.below BB.out (Nat.le_refl _)); have KA := Lib.hid (show w8.cell? ⟨w.heap.size, 0, none⟩ = some (.slice a0 n0 c0) ∧ w8.cell? ⟨w4.heap.size, 0, none⟩ = some (.slice (some ⟨bD0, 0, none⟩) n0 n0) from ⟨(BB.out.cell (p := ⟨w.heap.size, 0, none⟩) (by have := Tw7.out.size; have := LB0.out; show w.heap.size < _; omega)).trans eB0, (BB.out.cell (p := ⟨w4.heap.size, 0, none⟩) (by have := LXD0.out; show w4.heap.size < _; omega)).trans eXD0⟩); clear q b s1 s2) | (go_at_call 17; refine (eqRing_f _ _ _ _ _ _ _ _ _ DE.out.rd EE.out.rd (Nat.le_trans B0.out.1 (by omega)) (fun i hi => Nat.le_trans (Q0.out i hi) (by omega)) (fun i hi j hj => Nat.le_trans (Y0.out i hi j hj) (by omega))).mono ?_; rintro e w9 ⟨rfl, b⟩; have BC := Lib.hid (BB.out.trans (b.mono BB.out.size)); have KC := Lib.hid (show w9.cell? ⟨w.heap.size, 0, none⟩ = some (.slice a0 n0 c0) ∧ w9.cell? ⟨w4.heap.size, 0, none⟩ = some (.slice (some ⟨bD0, 0, none⟩) n0 n0) from ⟨(BC.out.cell (p := ⟨w.heap.size, 0, none⟩) (by have := Tw7.out.size; have := LB0.out; show w.heap.size < _; omega)).trans eB0, (BC.out.cell (p := ⟨w4.heap.size, 0, none⟩) (by have := LXD0.out; show w4.heap.size < _; omega)).trans eXD0⟩); clear b))
  clear eB0 eXD0
  have Tw9 := Lib.hid (Tw7.out.trans ((BC.out).mono Tw7.out.size))
  have Uw9 := Lib.hid (Uw7.out.trans ((BC.out).mono Uw7.out.size))
  have KXW := Lib.hid (((BC.out).cell (p := ⟨BW, 0, none⟩) LXW.out).trans KXW.out)
  have LXW := Lib.hid (Nat.lt_of_lt_of_le LXW.out (BC.out).size)
  have KXD0 := Lib.hid (((BC.out).cell (p := ⟨w4.heap.size, 0, none⟩) LXD0.out).trans KXD0.out)
  have LXD0 := Lib.hid (Nat.lt_of_lt_of_le LXD0.out (BC.out).size)
  have KXD1 := Lib.hid (((BC.out).cell (p := ⟨w5.heap.size, 0, none⟩) LXD1.out).trans KXD1.out)
  have LXD1 := Lib.hid (Nat.lt_of_lt_of_le LXD1.out (BC.out).size)
  have KXG := Lib.hid (((BC.out).cell (p := ⟨w6.heap.size, 0, none⟩) LXG.out).trans KXG.out)
  have LXG := Lib.hid (Nat.lt_of_lt_of_le LXG.out (BC.out).size)
  have D0 := Lib.hid (D0.out.below (BC.out) (Nat.le_refl _))
  have D1 := Lib.hid (D1.out.below (BC.out) (Nat.le_refl _))
  have GR := Lib.hid (GR.out.below (BC.out) (Nat.le_refl _))
  clear BC BB EE DE KA KC
  have eB1 := Tw9.out.cell (p := ⟨w.heap.size + 1, 0, none⟩) LB1.out
  rw [EB1.out] at eB1
  have eXD1 := KXD1.out
  go_wp2_with fail
  go_region_held3 (fun u => u.cell? ⟨w.heap.size + 1, 0, none⟩ = some (.slice a1 n1 c1) ∧ u.cell? ⟨w5.heap.size, 0, none⟩ = some (.slice (some ⟨bD1, 0, none⟩) n1 n1)) (first | exact ⟨eB1, eXD1⟩ | exact KA.out | exact KC.out) (first | (go_at_call 14; refine (toRing_f _ _ _ M1 L1 f1 _ (R1.out.below (by first | exact Tw9.out.drew | exact Tw9.out) (Nat.le_refl _)) B1.out.1 Q1.out Y1.out).mono ?_; rintro e w10 ⟨loE, bE, rfl, s1, s2, q, b⟩; have BB := Lib.hid (show Below w9.heap.size w9 w10 from ⟨b.os, b.tape, b.output, b.size, b.block⟩); have EE := Lib.hid q; have DE := Lib.hid (D1.out.below BB.out (Nat.le_refl _)); have KA := Lib.hid (show w10.cell? ⟨w.heap.size + 1, 0, none⟩ = some (.slice a1 n1 c1) ∧ w10.cell? ⟨w5.heap.size, 0, none⟩ = some (.slice (some ⟨bD1, 0, none⟩) n1 n1) from ⟨(BB.out.cell (p := ⟨w.heap.size + 1, 0, none⟩) (by have := Tw9.out.size; have := LB1.out; show w.heap.size + 1 < _; omega)).trans eB1, (BB.out.cell (p := ⟨w5.heap.size, 0, none⟩) (by have := LXD1.out; show w5.heap.size < _; omega)).trans eXD1⟩); clear q b s1 s2) | (go_at_call 17; refine (eqRing_f _ _ _ _ _ _ _ _ _ DE.out.rd EE.out.rd (Nat.le_trans B1.out.1 (by omega)) (fun i hi => Nat.le_trans (Q1.out i hi) (by omega)) (fun i hi j hj => Nat.le_trans (Y1.out i hi j hj) (by omega))).mono ?_; rintro e w11 ⟨rfl, b⟩; have BC := Lib.hid (BB.out.trans (b.mono BB.out.size)); have KC := Lib.hid (show w11.cell? ⟨w.heap.size + 1, 0, none⟩ = some (.slice a1 n1 c1) ∧ w11.cell? ⟨w5.heap.size, 0, none⟩ = some (.slice (some ⟨bD1, 0, none⟩) n1 n1) from ⟨(BC.out.cell (p := ⟨w.heap.size + 1, 0, none⟩) (by have := Tw9.out.size; have := LB1.out; show w.heap.size + 1 < _; omega)).trans eB1, (BC.out.cell (p := ⟨w5.heap.size, 0, none⟩) (by have := LXD1.out; show w5.heap.size < _; omega)).trans eXD1⟩); clear b))
  clear eB1 eXD1
  have Tw11 := Lib.hid (Tw9.out.trans ((BC.out).mono Tw9.out.size))
  have Uw11 := Lib.hid (Uw9.out.trans ((BC.out).mono Uw9.out.size))
  have KXW := Lib.hid (((BC.out).cell (p := ⟨BW, 0, none⟩) LXW.out).trans KXW.out)
  have LXW := Lib.hid (Nat.lt_of_lt_of_le LXW.out (BC.out).size)
  have KXD0 := Lib.hid (((BC.out).cell (p := ⟨w4.heap.size, 0, none⟩) LXD0.out).trans KXD0.out)
  have LXD0 := Lib.hid (Nat.lt_of_lt_of_le LXD0.out (BC.out).size)
  have KXD1 := Lib.hid (((BC.out).cell (p := ⟨w5.heap.size, 0, none⟩) LXD1.out).trans KXD1.out)
  have LXD1 := Lib.hid (Nat.lt_of_lt_of_le LXD1.out (BC.out).size)
  have KXG := Lib.hid (((BC.out).cell (p := ⟨w6.heap.size, 0, none⟩) LXG.out).trans KXG.out)
  have LXG := Lib.hid (Nat.lt_of_lt_of_le LXG.out (BC.out).size)
  have D0 := Lib.hid (D0.out.below (BC.out) (Nat.le_refl _))
  have D1 := Lib.hid (D1.out.below (BC.out) (Nat.le_refl _))
  have GR := Lib.hid (GR.out.below (BC.out) (Nat.le_refl _))
  clear BC BB EE DE KA KC
  have eXD0 := KXD0.out
  go_wp2_with fail
  clear eXD0
  have MK0 := Lib.hid (show Calls Try.prog 18 #[.agg #[.slice (some ⟨bD0, 0, none⟩) n0 n0], .int .i64 ((1 : Int))] w11 fun e w' => e = .returned (.int .i64 (((1 : Int)) + (p0 : Int))) ∧ ∃ o, Only (fun k => xW.heap.size ≤ k ∧ k < w4.heap.size) (w11.alloc o) w' from by rw [P0.out]; exact (markRing_f _ _ _ _ _ _ _ _ _ _ D0.out (Nat.le_trans B0.out.1 (by omega)) (fun i hi => Nat.le_trans (Q0.out i hi) (by omega)) (by rw [← P0.out]; omega) (by omega) (by omega)).mono fun _ _ h => ⟨h.1, h.2.2.imp fun _ ho => ho.mono fun k hk => ⟨by have := S1D0.out; have := hk.1; omega, hk.2⟩⟩)
  refine MK0.out.mono ?_
  rintro e w12 ⟨rfl, oo, ho⟩
  obtain ⟨w12m, hwm⟩ : ∃ x, x = w11.alloc oo := ⟨_, rfl⟩
  rw [← hwm] at ho
  have BB := Lib.hid (show Below w11.heap.size w11 w12m by rw [hwm]; exact below_alloc _ _)
  clear hwm
  have Tw12m := Lib.hid (Tw11.out.trans ((BB.out).mono Tw11.out.size))
  have Uw12m := Lib.hid (Uw11.out.trans ((BB.out).mono Uw11.out.size))
  have KXW := Lib.hid (((BB.out).cell (p := ⟨BW, 0, none⟩) LXW.out).trans KXW.out)
  have LXW := Lib.hid (Nat.lt_of_lt_of_le LXW.out (BB.out).size)
  have KXD0 := Lib.hid (((BB.out).cell (p := ⟨w4.heap.size, 0, none⟩) LXD0.out).trans KXD0.out)
  have LXD0 := Lib.hid (Nat.lt_of_lt_of_le LXD0.out (BB.out).size)
  have KXD1 := Lib.hid (((BB.out).cell (p := ⟨w5.heap.size, 0, none⟩) LXD1.out).trans KXD1.out)
  have LXD1 := Lib.hid (Nat.lt_of_lt_of_le LXD1.out (BB.out).size)
  have KXG := Lib.hid (((BB.out).cell (p := ⟨w6.heap.size, 0, none⟩) LXG.out).trans KXG.out)
  have LXG := Lib.hid (Nat.lt_of_lt_of_le LXG.out (BB.out).size)
  have D0 := Lib.hid (D0.out.below (BB.out) (Nat.le_refl _))
  have D1 := Lib.hid (D1.out.below (BB.out) (Nat.le_refl _))
  have GR := Lib.hid (GR.out.below (BB.out) (Nat.le_refl _))
  clear BB
  have OO := Lib.hid ho
  clear ho
  have BO := Lib.hid (OO.out.below (B := xW.heap.size) (fun k hk => by have z0_ := SZxW.out; have z1_ := LYW.out; have z2_ := SZw4.out; have z3_ := SZxD0.out; have z4_ := LYD0.out; have z5_ := SZw5.out; have z6_ := SZxD1.out; have z7_ := LYD1.out; have z8_ := SZw6.out; have := hk.1; omega))
  have Tw12 := Lib.hid (Tw12m.out.trans (BO.out.mono TxW.out.size))
  have Uw12 := Lib.hid (Uw12m.out.trans (BO.out.mono UxW.out.size))
  clear BO
  have KXW := Lib.hid ((OO.out.cell (p := ⟨BW, 0, none⟩) (fun hk => by have z0_ := SZxW.out; have z1_ := LYW.out; have z2_ := SZw4.out; have z3_ := SZxD0.out; have z4_ := LYD0.out; have z5_ := SZw5.out; have z6_ := SZxD1.out; have z7_ := LYD1.out; have z8_ := SZw6.out; have h1 := hk.1; have h2 := hk.2; (try simp only at h1 h2); omega)).trans KXW.out)
  have LXW := Lib.hid (show BW < w12.heap.size by rw [OO.out.size]; exact LXW.out)
  have KXD1 := Lib.hid ((OO.out.cell (p := ⟨w5.heap.size, 0, none⟩) (fun hk => by have z0_ := SZxW.out; have z1_ := LYW.out; have z2_ := SZw4.out; have z3_ := SZxD0.out; have z4_ := LYD0.out; have z5_ := SZw5.out; have z6_ := SZxD1.out; have z7_ := LYD1.out; have z8_ := SZw6.out; have h1 := hk.1; have h2 := hk.2; (try simp only at h1 h2); omega)).trans KXD1.out)
  have LXD1 := Lib.hid (show w5.heap.size < w12.heap.size by rw [OO.out.size]; exact LXD1.out)
  have KXG := Lib.hid ((OO.out.cell (p := ⟨w6.heap.size, 0, none⟩) (fun hk => by have z0_ := SZxW.out; have z1_ := LYW.out; have z2_ := SZw4.out; have z3_ := SZxD0.out; have z4_ := LYD0.out; have z5_ := SZw5.out; have z6_ := SZxD1.out; have z7_ := LYD1.out; have z8_ := SZw6.out; have h1 := hk.1; have h2 := hk.2; (try simp only at h1 h2); omega)).trans KXG.out)
  have LXG := Lib.hid (show w6.heap.size < w12.heap.size by rw [OO.out.size]; exact LXG.out)
  have D1 := Lib.hid (D1.out.only OO.out (fun k hk hk3 => by have z0_ := SZxW.out; have z1_ := LYW.out; have z2_ := SZw4.out; have z3_ := SZxD0.out; have z4_ := LYD0.out; have z5_ := SZw5.out; have z6_ := SZxD1.out; have z7_ := LYD1.out; have z8_ := SZw6.out; have z3 := S1D1.out; have h1 := hk.1; have h2 := hk.2; have z4 := hk3.1; have z5 := hk3.2; omega))
  have GR := Lib.hid (GR.out.only OO.out (fun k hk hk3 => by have z0_ := SZxW.out; have z1_ := LYW.out; have z2_ := SZw4.out; have z3_ := SZxD0.out; have z4_ := LYD0.out; have z5_ := SZw5.out; have z6_ := SZxD1.out; have z7_ := LYD1.out; have z8_ := SZw6.out; have h3 := hk3.1; have h2 := hk.2; omega))
  clear OO D0 MK0
  have eXD1 := KXD1.out
  go_wp2_with fail
  clear eXD1
  have MK1 := Lib.hid (show Calls Try.prog 18 #[.agg #[.slice (some ⟨bD1, 0, none⟩) n1 n1], .int .i64 ((1 : Int) + (p0 : Int))] w12 fun e w' => e = .returned (.int .i64 (((1 : Int) + (p0 : Int)) + (p1 : Int))) ∧ ∃ o, Only (fun k => xD0.heap.size ≤ k ∧ k < w5.heap.size) (w12.alloc o) w' from by rw [P1.out]; exact (markRing_f _ _ _ _ _ _ _ _ _ _ D1.out (Nat.le_trans B1.out.1 (by omega)) (fun i hi => Nat.le_trans (Q1.out i hi) (by omega)) (by rw [← P1.out]; omega) (by omega) (by omega)).mono fun _ _ h => ⟨h.1, h.2.2.imp fun _ ho => ho.mono fun k hk => ⟨by have := S1D1.out; have := hk.1; omega, hk.2⟩⟩)
  refine MK1.out.mono ?_
  rintro e w13 ⟨rfl, oo, ho⟩
  obtain ⟨w13m, hwm⟩ : ∃ x, x = w12.alloc oo := ⟨_, rfl⟩
  rw [← hwm] at ho
  have BB := Lib.hid (show Below w12.heap.size w12 w13m by rw [hwm]; exact below_alloc _ _)
  clear hwm
  have Tw13m := Lib.hid (Tw12.out.trans ((BB.out).mono Tw12.out.size))
  have Uw13m := Lib.hid (Uw12.out.trans ((BB.out).mono Uw12.out.size))
  have KXW := Lib.hid (((BB.out).cell (p := ⟨BW, 0, none⟩) LXW.out).trans KXW.out)
  have LXW := Lib.hid (Nat.lt_of_lt_of_le LXW.out (BB.out).size)
  have KXD1 := Lib.hid (((BB.out).cell (p := ⟨w5.heap.size, 0, none⟩) LXD1.out).trans KXD1.out)
  have LXD1 := Lib.hid (Nat.lt_of_lt_of_le LXD1.out (BB.out).size)
  have KXG := Lib.hid (((BB.out).cell (p := ⟨w6.heap.size, 0, none⟩) LXG.out).trans KXG.out)
  have LXG := Lib.hid (Nat.lt_of_lt_of_le LXG.out (BB.out).size)
  have D1 := Lib.hid (D1.out.below (BB.out) (Nat.le_refl _))
  have GR := Lib.hid (GR.out.below (BB.out) (Nat.le_refl _))
  clear BB
  have OO := Lib.hid ho
  clear ho
  have BO := Lib.hid (OO.out.below (B := xW.heap.size) (fun k hk => by have z0_ := SZxW.out; have z1_ := LYW.out; have z2_ := SZw4.out; have z3_ := SZxD0.out; have z4_ := LYD0.out; have z5_ := SZw5.out; have z6_ := SZxD1.out; have z7_ := LYD1.out; have z8_ := SZw6.out; have := hk.1; omega))
  have Tw13 := Lib.hid (Tw13m.out.trans (BO.out.mono TxW.out.size))
  have Uw13 := Lib.hid (Uw13m.out.trans (BO.out.mono UxW.out.size))
  clear BO
  have KXW := Lib.hid ((OO.out.cell (p := ⟨BW, 0, none⟩) (fun hk => by have z0_ := SZxW.out; have z1_ := LYW.out; have z2_ := SZw4.out; have z3_ := SZxD0.out; have z4_ := LYD0.out; have z5_ := SZw5.out; have z6_ := SZxD1.out; have z7_ := LYD1.out; have z8_ := SZw6.out; have h1 := hk.1; have h2 := hk.2; (try simp only at h1 h2); omega)).trans KXW.out)
  have LXW := Lib.hid (show BW < w13.heap.size by rw [OO.out.size]; exact LXW.out)
  have KXG := Lib.hid ((OO.out.cell (p := ⟨w6.heap.size, 0, none⟩) (fun hk => by have z0_ := SZxW.out; have z1_ := LYW.out; have z2_ := SZw4.out; have z3_ := SZxD0.out; have z4_ := LYD0.out; have z5_ := SZw5.out; have z6_ := SZxD1.out; have z7_ := LYD1.out; have z8_ := SZw6.out; have h1 := hk.1; have h2 := hk.2; (try simp only at h1 h2); omega)).trans KXG.out)
  have LXG := Lib.hid (show w6.heap.size < w13.heap.size by rw [OO.out.size]; exact LXG.out)
  have GR := Lib.hid (GR.out.only OO.out (fun k hk hk3 => by have z0_ := SZxW.out; have z1_ := LYW.out; have z2_ := SZw4.out; have z3_ := SZxD0.out; have z4_ := LYD0.out; have z5_ := SZw5.out; have z6_ := SZxD1.out; have z7_ := LYD1.out; have z8_ := SZw6.out; have h3 := hk3.1; have h2 := hk.2; omega))
  clear OO D1 MK1
  have eXW := KXW.out
  have eXG := KXG.out
  go_wp2_with fail
  clear eXW eXG
  refine (eqRing_f _ _ _ _ _ _ _ _ _ GR.out.rd (SR.out.below Uw13.out (Nat.le_refl _)) (by omega) (fun i hi => Nat.le_trans (HMM.out i hi) (by omega)) (fun i hi j hj => Nat.le_trans (HLL.out i hi j hj) (by omega))).mono ?_
  rintro e w14 ⟨rfl, b⟩
  have BB := Lib.hid b
  clear b
  have Tw14 := Lib.hid (Tw13.out.trans ((BB.out).mono Tw13.out.size))
  have Uw14 := Lib.hid (Uw13.out.trans ((BB.out).mono Uw13.out.size))
  have KXW := Lib.hid (((BB.out).cell (p := ⟨BW, 0, none⟩) LXW.out).trans KXW.out)
  have LXW := Lib.hid (Nat.lt_of_lt_of_le LXW.out (BB.out).size)
  have KXG := Lib.hid (((BB.out).cell (p := ⟨w6.heap.size, 0, none⟩) LXG.out).trans KXG.out)
  have LXG := Lib.hid (Nat.lt_of_lt_of_le LXG.out (BB.out).size)
  have GR := Lib.hid (GR.out.below (BB.out) (Nat.le_refl _))
  clear BB
  have eXG := KXG.out
  go_wp2_with fail
  clear eXG
  have MG := Lib.hid (show Calls Try.prog 18 #[.agg #[.slice ga N gc], .int .i64 1] w14 fun e w' => e = .returned (.int .i64 (1 + (pn : Int))) ∧ OwnT w' xD1.heap.size w6.heap.size ga N MM LL (fun i j k => (1 : Int) + (sum3 MM LL i : Nat) + (pre (LL i) j : Nat) + k) ∧ ∃ o, Only (fun k => xD1.heap.size ≤ k ∧ k < w6.heap.size) (w14.alloc o) w' from by rw [PN.out]; exact markRing_own _ _ _ _ _ _ _ _ _ _ GR.out (by omega) (fun i hi => Nat.le_trans (HMM.out i hi) (by omega)) (by rw [← PN.out]; omega) (by omega) (by omega))
  refine MG.out.mono ?_
  rintro e w15 ⟨rfl, q, oo, ho⟩
  obtain ⟨w15m, hwm⟩ : ∃ x, x = w14.alloc oo := ⟨_, rfl⟩
  rw [← hwm] at ho
  have BB := Lib.hid (show Below w14.heap.size w14 w15m by rw [hwm]; exact below_alloc _ _)
  clear hwm
  have Tw15m := Lib.hid (Tw14.out.trans ((BB.out).mono Tw14.out.size))
  have Uw15m := Lib.hid (Uw14.out.trans ((BB.out).mono Uw14.out.size))
  have KXW := Lib.hid (((BB.out).cell (p := ⟨BW, 0, none⟩) LXW.out).trans KXW.out)
  have LXW := Lib.hid (Nat.lt_of_lt_of_le LXW.out (BB.out).size)
  have KXG := Lib.hid (((BB.out).cell (p := ⟨w6.heap.size, 0, none⟩) LXG.out).trans KXG.out)
  have LXG := Lib.hid (Nat.lt_of_lt_of_le LXG.out (BB.out).size)
  clear BB
  have GM := Lib.hid q
  have OO := Lib.hid ho
  clear q ho GR MG
  have BO := Lib.hid (OO.out.below (B := xD1.heap.size) (fun k hk => by have z0_ := SZxW.out; have z1_ := LYW.out; have z2_ := SZw4.out; have z3_ := SZxD0.out; have z4_ := LYD0.out; have z5_ := SZw5.out; have z6_ := SZxD1.out; have z7_ := LYD1.out; have z8_ := SZw6.out; have := hk.1; omega))
  have Tw15 := Lib.hid (Tw15m.out.trans (BO.out.mono TxD1.out.size))
  have Uw15 := Lib.hid (Uw15m.out.trans (BO.out.mono UxD1.out.size))
  clear BO
  have KXW := Lib.hid ((OO.out.cell (p := ⟨BW, 0, none⟩) (fun hk => by have z0_ := SZxW.out; have z1_ := LYW.out; have z2_ := SZw4.out; have z3_ := SZxD0.out; have z4_ := LYD0.out; have z5_ := SZw5.out; have z6_ := SZxD1.out; have z7_ := LYD1.out; have z8_ := SZw6.out; have h1 := hk.1; have h2 := hk.2; (try simp only at h1 h2); omega)).trans KXW.out)
  have LXW := Lib.hid (show BW < w15.heap.size by rw [OO.out.size]; exact LXW.out)
  have KXG := Lib.hid ((OO.out.cell (p := ⟨w6.heap.size, 0, none⟩) (fun hk => by have z0_ := SZxW.out; have z1_ := LYW.out; have z2_ := SZw4.out; have z3_ := SZxD0.out; have z4_ := LYD0.out; have z5_ := SZw5.out; have z6_ := SZxD1.out; have z7_ := LYD1.out; have z8_ := SZw6.out; have h1 := hk.1; have h2 := hk.2; (try simp only at h1 h2); omega)).trans KXG.out)
  have LXG := Lib.hid (show w6.heap.size < w15.heap.size by rw [OO.out.size]; exact LXG.out)
  clear OO
  have eXG := KXG.out
  go_wp2_with fail
  clear eXG
  have HG := Lib.hid (show Calls Try.prog 24 #[.agg #[.slice ga N gc], .int .i64 1] w15 fun e w' => e = .returned (.int .i64 (1 + (pn : Int))) ∧ Below w15.heap.size w15 w' from by rw [PN.out]; exact heldRing_f _ _ _ _ _ _ _ GM.out.rd (by omega) (fun i hi => Nat.le_trans (HMM.out i hi) (by omega)) (by rw [← PN.out]; omega) (by omega) (by omega))
  refine HG.out.mono ?_
  rintro e w16 ⟨rfl, b⟩
  have BB := Lib.hid b
  clear b HG
  have Tw16 := Lib.hid (Tw15.out.trans ((BB.out).mono Tw15.out.size))
  have Uw16 := Lib.hid (Uw15.out.trans ((BB.out).mono Uw15.out.size))
  have KXW := Lib.hid (((BB.out).cell (p := ⟨BW, 0, none⟩) LXW.out).trans KXW.out)
  have LXW := Lib.hid (Nat.lt_of_lt_of_le LXW.out (BB.out).size)
  have KXG := Lib.hid (((BB.out).cell (p := ⟨w6.heap.size, 0, none⟩) LXG.out).trans KXG.out)
  have LXG := Lib.hid (Nat.lt_of_lt_of_le LXG.out (BB.out).size)
  have GM := Lib.hid (GM.out.below (BB.out) (Nat.le_refl _))
  clear BB
  have KZ := Lib.hid (fun u (hu : Below w16.heap.size w16 u) => show u.cell? ⟨w.heap.size, 0, none⟩ = some (.slice a0 n0 c0) ∧ u.cell? ⟨w.heap.size + 1, 0, none⟩ = some (.slice a1 n1 c1) from ⟨(hu.cell (p := ⟨w.heap.size, 0, none⟩) (Nat.lt_of_lt_of_le LB0.out Tw16.out.size)).trans (by have := Tw16.out.cell (p := ⟨w.heap.size, 0, none⟩) LB0.out; rw [EB0.out] at this; exact this), (hu.cell (p := ⟨w.heap.size + 1, 0, none⟩) (Nat.lt_of_lt_of_le LB1.out Tw16.out.size)).trans (by have := Tw16.out.cell (p := ⟨w.heap.size + 1, 0, none⟩) LB1.out; rw [EB1.out] at this; exact this)⟩)
  have TZ := Lib.hid (fun u (hu : Below w16.heap.size w16 u) => Tw16.out.trans (hu.mono Tw16.out.size))
  have eB0 := (KZ.out _ (Below.refl _ _)).1
  have eB1 := (KZ.out _ (Below.refl _ _)).2
  go_wp2_with fail
  go_cut [15, 16] from 94 (fun p c wx => ∃ (B : Nat) (sa : Option Addr) (sc : Nat), p = .pointer (some ⟨B, 0, none⟩) ∧ c = .int .i64 cd ∧ B < wx.heap.size ∧ wx.cell? ⟨B, 0, none⟩ = some (.slice sa N sc) ∧ RdT wx sa N MM LL FF ∧ Below w16.heap.size w16 wx)
  case first =>
    go_region_held3 (fun u => u.cell? ⟨w.heap.size, 0, none⟩ = some (.slice a0 n0 c0) ∧ u.cell? ⟨w.heap.size + 1, 0, none⟩ = some (.slice a1 n1 c1)) (first | exact KZ.out _ (Below.refl _ _).drew | exact KZ.out _ ((Below.refl _ _).drew.alloc (Nat.le_refl _) _) | exact KZ.out _ Z1.out | exact KZ.out _ (Z1.out.alloc Z1.out.size _) | exact KZ.out _ Z2.out | exact KZ.out _ (Z2.out.alloc Z2.out.size _) | exact KZ.out _ Z3.out | exact KZ.out _ (Z3.out.alloc Z3.out.size _) | exact KZ.out _ (Z3.out.setCell (Nat.le_refl _) _) | exact KZ.out _ (Z3.out.setCell Z1.out.size _) | exact KZ.out _ (Z3.out.setCell Z2.out.size _) | exact KZ.out _ ((Z3.out.alloc Z3.out.size _).setCell Z3.out.size _)) (first | (have q9 := Z2.out; clear q9; go_at_call 38; refine (HI.out _ _ _ _ _ (by first | exact H0.out.rd | exact H0.out.rd.below (below_alloc _ _) (Nat.le_refl _)) (by first | exact H1.out.rd | exact H1.out.rd.below (below_alloc _ _) (Nat.le_refl _))).mono ?_; rintro e w19 ⟨sa, sc, rfl, q, b⟩; have SRq := Lib.hid q.rd; have W23 := Lib.hid (show Below w18.heap.size w18 w19 from by first | exact b | exact (below_alloc w18 _).trans (b.mono (by simp))); have Z3 := Lib.hid (Z2.out.trans (W23.out.mono Z2.out.size)); (first | (have HXa := Lib.hid (RowB.below HXa.out W23.out LXa.out); have HRa := Lib.hid (show RdT (w19.setCell ⟨w16.heap.size, 0, none⟩ (.slice sa N sc)) sa N MM LL FF from (q.only ((Only.refl (fun k => k = w16.heap.size) w19).setCell (p := ⟨w16.heap.size, 0, none⟩) rfl _) (fun k hk h => by have e9 : k = w16.heap.size := hk; have g9 := h.1; have l9 := LXa.out; omega)).rd); have LZa := Lib.hid (show w16.heap.size < (w19.setCell ⟨w16.heap.size, 0, none⟩ (.slice sa N sc)).heap.size by have h9 := RowB.lt HXa.out; simpa using h9); obtain ⟨e7, e8, e9⟩ := res_cells HXa.out (.slice sa N sc)) | (have HXb := Lib.hid (RowB.below HXb.out W23.out LXb.out); have HRb := Lib.hid (show RdT (w19.setCell ⟨w17.heap.size, 0, none⟩ (.slice sa N sc)) sa N MM LL FF from (q.only ((Only.refl (fun k => k = w17.heap.size) w19).setCell (p := ⟨w17.heap.size, 0, none⟩) rfl _) (fun k hk h => by have e9 : k = w17.heap.size := hk; have g9 := h.1; have l9 := LXb.out; omega)).rd); have LZb := Lib.hid (show w17.heap.size < (w19.setCell ⟨w17.heap.size, 0, none⟩ (.slice sa N sc)).heap.size by have h9 := RowB.lt HXb.out; simpa using h9); obtain ⟨e7, e8, e9⟩ := res_cells HXb.out (.slice sa N sc)) | (have HXc := Lib.hid (show RowB w19 29 w18.heap.size 1 (fun _ => .slice none 0 0) from RowB.below (row_one w18 (.slice none 0 0) 29) b (by simp)); have HRc := Lib.hid (show RdT (w19.setCell ⟨w18.heap.size, 0, none⟩ (.slice sa N sc)) sa N MM LL FF from (q.only ((Only.refl (fun k => k = w18.heap.size) w19).setCell (p := ⟨w18.heap.size, 0, none⟩) rfl _) (fun k hk h => by have e9 : k = w18.heap.size := hk; have g9 := h.1; simp at g9; omega)).rd); have LZc := Lib.hid (show w18.heap.size < (w19.setCell ⟨w18.heap.size, 0, none⟩ (.slice sa N sc)).heap.size by have h9 := RowB.lt HXc.out; simpa using h9); obtain ⟨e7, e8, e9⟩ := res_cells HXc.out (.slice sa N sc)) | skip); clear q b) | (have q9 := Z1.out; clear q9; go_at_call 14; refine (toRing_f _ _ _ M1 L1 f1 _ (R1.out.below (TZ.out _ (by first | exact Z1.out | exact Z1.out.alloc Z1.out.size _)) (Nat.le_refl _)) B1.out.1 Q1.out Y1.out).mono ?_; rintro e w18 ⟨loH1, bH1, rfl, s1, s2, q, b⟩; have H1 := Lib.hid q; have W12 := Lib.hid (show Below w17.heap.size w17 w18 from by first | exact b | exact (below_alloc w17 _).trans (b.mono (by simp))); have Z2 := Lib.hid (Z1.out.trans (W12.out.mono Z1.out.size)); have H0 := Lib.hid (H0.out.below W12.out (Nat.le_refl _)); (first | (have LXa := Lib.hid (Nat.lt_of_lt_of_le LXa.out W12.out.size); have HXa := Lib.hid (RowB.below HXa.out W12.out (RowB.lt HXa.out))) | (have HXb := Lib.hid (show RowB w18 29 w17.heap.size 1 (fun _ => .slice none 0 0) from RowB.below (row_one w17 (.slice none 0 0) 29) b (by simp)); have LXb := Lib.hid (show w17.heap.size < w18.heap.size from RowB.lt HXb.out)) | skip); clear q b s1 s2) | (go_at_call 14; refine (toRing_f _ _ _ M0 L0 f0 _ (R0.out.below (TZ.out _ (by first | exact (Below.refl _ _).drew | exact (Below.refl _ _).drew.alloc (Nat.le_refl _) _)) (Nat.le_refl _)) B0.out.1 Q0.out Y0.out).mono ?_; rintro e w17 ⟨loH0, bH0, rfl, s1, s2, q, b⟩; have H0 := Lib.hid q; have Z1 := Lib.hid (show Below w16.heap.size w16 w17 from by first | exact (Below.refl _ _).drew.trans (b.mono (Nat.le_refl _)) | exact ((Below.refl _ _).drew.alloc (Nat.le_refl _) _).trans (b.mono (by simp))); (first | (have HXa := Lib.hid (show RowB w17 29 w16.heap.size 1 (fun _ => .slice none 0 0) from RowB.below (row_one w16.drew (.slice none 0 0) 29) b (by simp)); have LXa := Lib.hid (show w16.heap.size < w17.heap.size from RowB.lt HXa.out)) | skip); clear q b s1 s2))
    all_goals
      clear eB0 eB1
      go_wp2_with fail
      go_meet
      first | exact ⟨w19.heap.size, sa, sc, rfl, rfl, by simp, cell_box _ _ _, SRq.out.below (below_alloc _ _) (Nat.le_refl _), Z3.out.alloc Z3.out.size _⟩ | exact ⟨w16.heap.size, sa, sc, rfl, rfl, LZa.out, e9, HRa.out, Z3.out.setCell (p := ⟨w16.heap.size, 0, none⟩) (Nat.le_refl _) _⟩ | exact ⟨w17.heap.size, sa, sc, rfl, rfl, LZb.out, e9, HRb.out, Z3.out.setCell (p := ⟨w17.heap.size, 0, none⟩) Z1.out.size _⟩ | exact ⟨w18.heap.size, sa, sc, rfl, rfl, LZc.out, e9, HRc.out, Z3.out.setCell (p := ⟨w18.heap.size, 0, none⟩) Z2.out.size _⟩
  case rest =>
  obtain ⟨BH, ha, hc, rfl, rfl, hBH, hcH, hrH, hbH⟩ := hcut
  obtain ⟨xH, hxH⟩ : ∃ x, x = wc := ⟨_, rfl⟩
  subst hxH
  have HR := Lib.hid hrH
  have TxH := Lib.hid (Tw16.out.trans (hbH.mono Tw16.out.size))
  have UxH := Lib.hid (Uw16.out.trans (hbH.mono Uw16.out.size))
  have KXW := Lib.hid ((hbH.cell (p := ⟨BW, 0, none⟩) LXW.out).trans KXW.out)
  have LXW := Lib.hid (Nat.lt_of_lt_of_le LXW.out hbH.size)
  have KXG := Lib.hid ((hbH.cell (p := ⟨w6.heap.size, 0, none⟩) LXG.out).trans KXG.out)
  have LXG := Lib.hid (Nat.lt_of_lt_of_le LXG.out hbH.size)
  have GM := Lib.hid (GM.out.below hbH (Nat.le_refl _))
  have KXH := Lib.hid hcH
  have LXH := Lib.hid hBH
  clear hBH hcH hrH hbH KZ TZ
  have eXW := KXW.out
  have eXH := KXH.out
  go_wp2_with fail
  clear eXW eXH
  refine (eqRing_f _ _ _ _ _ _ _ _ _ HR.out (SR.out.below UxH.out (Nat.le_refl _)) (by omega) (fun i hi => Nat.le_trans (HMM.out i hi) (by omega)) (fun i hi j hj => Nat.le_trans (HLL.out i hi j hj) (by omega))).mono ?_
  rintro e w20 ⟨rfl, b⟩
  have BB := Lib.hid b
  clear b
  have Tw20 := Lib.hid (TxH.out.trans ((BB.out).mono TxH.out.size))
  have Uw20 := Lib.hid (UxH.out.trans ((BB.out).mono UxH.out.size))
  have KXW := Lib.hid (((BB.out).cell (p := ⟨BW, 0, none⟩) LXW.out).trans KXW.out)
  have LXW := Lib.hid (Nat.lt_of_lt_of_le LXW.out (BB.out).size)
  have KXG := Lib.hid (((BB.out).cell (p := ⟨w6.heap.size, 0, none⟩) LXG.out).trans KXG.out)
  have LXG := Lib.hid (Nat.lt_of_lt_of_le LXG.out (BB.out).size)
  have KXH := Lib.hid (((BB.out).cell (p := ⟨BH, 0, none⟩) LXH.out).trans KXH.out)
  have LXH := Lib.hid (Nat.lt_of_lt_of_le LXH.out (BB.out).size)
  have GM := Lib.hid (GM.out.below (BB.out) (Nat.le_refl _))
  have HR := Lib.hid (HR.out.below (BB.out) (Nat.le_refl _))
  clear BB
  have eXG := KXG.out
  go_wp2_with fail
  clear eXG
  have HG := Lib.hid (show Calls Try.prog 24 #[.agg #[.slice ga N gc], .int .i64 1] w20 fun e w' => e = .returned (.int .i64 (1 + (pn : Int))) ∧ Below w20.heap.size w20 w' from by rw [PN.out]; exact heldRing_f _ _ _ _ _ _ _ GM.out.rd (by omega) (fun i hi => Nat.le_trans (HMM.out i hi) (by omega)) (by rw [← PN.out]; omega) (by omega) (by omega))
  refine HG.out.mono ?_
  rintro e w21 ⟨rfl, b⟩
  have BB := Lib.hid b
  clear b HG
  have Tw21 := Lib.hid (Tw20.out.trans ((BB.out).mono Tw20.out.size))
  have Uw21 := Lib.hid (Uw20.out.trans ((BB.out).mono Uw20.out.size))
  have KXW := Lib.hid (((BB.out).cell (p := ⟨BW, 0, none⟩) LXW.out).trans KXW.out)
  have LXW := Lib.hid (Nat.lt_of_lt_of_le LXW.out (BB.out).size)
  have KXG := Lib.hid (((BB.out).cell (p := ⟨w6.heap.size, 0, none⟩) LXG.out).trans KXG.out)
  have LXG := Lib.hid (Nat.lt_of_lt_of_le LXG.out (BB.out).size)
  have KXH := Lib.hid (((BB.out).cell (p := ⟨BH, 0, none⟩) LXH.out).trans KXH.out)
  have LXH := Lib.hid (Nat.lt_of_lt_of_le LXH.out (BB.out).size)
  have GM := Lib.hid (GM.out.below (BB.out) (Nat.le_refl _))
  clear BB
  go_wp2_with fail
  go_ret
  exact ⟨rfl, HWB.out.trans (Tw21.out.mono HWB.out.size)⟩

set_option maxRecDepth 100000 in
theorem lifted (os : Os) (started : os.Started) (H : Type) (enc : TypeId × Value → H) :
    ReturnsInHanded {} Try.checked os 11 .any (Rows.fnExactProductRingSpec.pre6 enc Try.prog Try.f11 Rows.fnExactProductRingRow.domain false) (Rows.fnExactProductRingSpec.post enc Try.prog Try.f11 false true false false) := by
  refine returnsInHanded_of_change (C := Try.checked) own started (by kernel_rfl) Try.func11
    (ChangeSpec.witness6 (enc := enc) (C := Try.checked) false ⟨#[], #[.agg #[.slice none 0 0], .agg #[.slice none 0 0]], []⟩ 8 (by kernel_rfl) (by kernel_rfl) (by kernel_rfl) (by kernel_rfl)) ?_
  intro W base args ds gs before hval0 hW hcnd _
  have hval : ∀ (j : Nat) t v, Try.f11.params[j]? = some t → args[j]? = some v → Value.okWide Try.prog W .any base t v := hval0
  have hW' := hW
  obtain ⟨p, q, hA0, hV, rfl, hfz, hnd⟩ := hW
  have hA : DataW.TrodAll enc Try.prog W 0 (fun _ => true) true Try.f11.params.toList args.toList ds p := hA0
  rw [Try.params11] at hA hval
  obtain ⟨v0, vs0, d0, ds0, p0, q0, hargs, rfl, rfl, h0, t0⟩ := trodAll_cons hA
  obtain ⟨v1, vs1, d1, ds1, p1, q1, rfl, rfl, rfl, h1, t1⟩ := trodAll_cons t0
  obtain ⟨rfl, rfl, rfl⟩ := trodAll_nil t1
  obtain rfl : args = #[v0, v1] := by cases args; simp_all
  obtain ⟨rfl, rfl⟩ := trodVars_none hV
  obtain ⟨a0, n0, c0, rfl, hm0, M0, L0, f0, hx0, hy0, r0⟩ := RdRing_of_trod (hval 0 24 v0 rfl rfl) h0
  obtain ⟨a1, n1, c1, rfl, hm1, M1, L1, f1, hx1, hy1, r1⟩ := RdRing_of_trod (hval 1 24 v1 rfl rfl) h1
  clear hA0 hval0
  refine (walk W a0 n0 c0 M0 L0 f0 hm0 hx0 hy0 r0 a1 n1 c1 M1 L1 f1 hm1 hx1 hy1 r1).mono fun e W' ⟨he, hg⟩ => ?_
  subst he
  refine ⟨_, rfl, _, _, _, [], (p0 ++ (p1 ++ [])), [], hW', ?_, ?_, rfl, hg.frame _, fun h => by cases h⟩
  · exact (trodAll_cons_mk (shut_bool Try.underlying4 _) trodAll_mk0)
  · exact (trodAll_cons_mk (Below.trod laidOut (by kernel_rfl) (of_decide_eq_true (by kernel_rfl)) h0 hg (fun x hx => hW'.lt x (by simp [hx]))) (trodAll_cons_mk (Below.trod laidOut (by kernel_rfl) (of_decide_eq_true (by kernel_rfl)) h1 hg (fun x hx => hW'.lt x (by simp [hx]))) trodAll_mk0))

theorem over : Rows.fnExactProductRingRow.holds Try.pinned (OpenSpec.ofChange Rows.fnExactProductRingSpec) :=
  OpenClaim.holds_of_wide 11 Try.f11 rfl rfl rfl rfl rfl rfl rfl ⟨rfl, rfl, rfl, rfl, rfl⟩ rfl rfl rfl rfl rfl (by kernel_rfl) Try.func11 (by kernel_rfl)
    (of_decide_eq_true (by kernel_rfl)) (by unfold Func.isWrapper; first | (rw [if_pos (by decide +kernel)]; kernel_rfl) | (rw [if_neg (by decide +kernel)]; exact ⟨rfl, rfl⟩))
    (fun os started H enc _ => lifted os started H enc)

theorem proved : Rows.FnExactProductRingSaid :=
  over
end Go.Proofs.Ytfiilhoojoaflaa.fnExactProductRing
