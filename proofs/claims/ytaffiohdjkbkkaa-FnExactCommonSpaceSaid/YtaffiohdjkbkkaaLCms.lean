/- 'FnExactCommonSpace': for all arguments the law answers true. No further condition. -/
import Derived.Test.YtaffiohdjkbkkaaRows
import Derived.Test.YtaffiohdjkbkkaaCsl
import Derived.OpenShut
import Derived.Carry
namespace Go.Proofs.Ytaffiohdjkbkkaa.fnExactCommonSpace
open Go.ChangeShapes Go.WideShapes Go.ChangeAt Go.RowKit
set_option linter.unusedVariables false

theorem own : ownKnob Try.prog.godebug = none := by kernel_rfl
theorem laidOut : laidOutB Try.prog = true := by kernel_rfl
set_option maxHeartbeats 4000000 in
set_option maxRecDepth 100000 in
theorem walk (w : World) (a0 : Option Addr) (n0 c0 : Nat) (M0 : Nat → Nat) (L0 : Nat → Nat → Nat) (f0 : Nat → Nat → Nat → Int) (hm0 : n0 ≤ maxLen) (hx0 : ∀ i, i < n0 → M0 i ≤ maxLen) (hy0 : ∀ i, i < n0 → ∀ j, j < M0 i → L0 i j ≤ maxLen) (r0 : RdT w a0 n0 M0 L0 f0) (a1 : Option Addr) (n1 c1 : Nat) (f1 : Nat → Int) (hm1 : n1 ≤ maxLen) (r1 : RdR w a1 n1 f1) :
    Calls Try.prog 3 #[.slice a0 n0 c0, .slice a1 n1 c1] w fun e w' => e = .returned (.bool true) ∧ Below w.heap.size w w' := by
  have R0 := Lib.hid r0
  clear r0
  have X0 := Lib.hid hx0
  clear hx0
  have Y0 := Lib.hid hy0
  clear hy0
  have R1 := Lib.hid r1
  clear r1
  by_cases hl1 : 1048576 < n1
  · have hd1 : decide (1048576 < (n1 : Int)) = true := by simp; omega
    go_enter Try.func3, Try.ntmps3
    go_wp2_with fail
    go_ret
    exact ⟨rfl, Below.refl _ _⟩
  have hd1 : decide (1048576 < (n1 : Int)) = false := by simp; omega
  obtain ⟨v0, hv0⟩ : ∃ v, v = szLeft n0 (cnt M0 L0) (1048576 : Int) := ⟨_, rfl⟩
  have S0 : Hid (Calls Try.prog 11 #[.slice a0 n0 c0, .int .i64 1048576] w fun e w' => e = .returned (.int .i64 v0) ∧ w = w') := by
    rw [hv0]; exact szInt64SSS_f a0 n0 c0 M0 L0 f0 _ w R0.out hm0 X0.out Y0.out (by omega) (by omega)
  have V0 := Lib.hid hv0
  clear hv0
  by_cases hs0 : v0 < 0
  · have hds0 : decide (v0 < 0) = true := by simp; omega
    go_enter Try.func3, Try.ntmps3
    go_wp2_with fail
    refine (S0.out).mono ?_
    rintro e w' ⟨rfl, rfl⟩
    go_wp2_with fail
    go_ret
    exact ⟨rfl, Below.refl _ _⟩
  have hds0 : decide (v0 < 0) = false := by simp; omega
  have hz0 := szLeft_pos (n := n0) (L := (cnt M0 L0)) (l := (1048576 : Int)) (by rw [← V0.out]; exact hs0)
  rw [← V0.out] at hz0
  obtain ⟨hza0, hzb0⟩ := hz0
  have B0 := Lib.hid (show n0 ≤ 1048576 ∧ pre (cnt M0 L0) n0 ≤ 1048576 from ⟨by omega, by omega⟩)
  have hb0 : 0 ≤ v0 ∧ v0 ≤ 1048576 := ⟨by omega, by omega⟩
  have Q0 := Lib.hid (show ∀ i, i < n0 → M0 i ≤ 1048576 from fun i hi => Nat.le_trans (Nat.le_add_right _ _) (Nat.le_trans (pre_at (cnt M0 L0) hi) B0.out.2))
  have Y0 := Lib.hid (show ∀ i, i < n0 → ∀ j, j < M0 i → L0 i j ≤ 1048576 from fun i hi j hj => Nat.le_trans (pre_at (L0 i) hj) (Nat.le_trans (Nat.le_add_left _ _) (Nat.le_trans (pre_at (cnt M0 L0) hi) B0.out.2)))
  have pair : ∃ (N : Nat) (LL : Nat → Nat) (FF : Nat → Nat → Int) (cd : Int), N ≤ 64 ∧ (∀ i, i < N → LL i ≤ 64) ∧ (∀ (x0 : Option Addr) (y0 : Nat) (x1 : Option Addr) (y1 : Nat) (u : World), RdT u x0 n0 M0 L0 f0 → RdR u x1 n1 f1 → Calls Try.prog 12 #[.slice x0 n0 y0, .slice x1 n1 y1] u (TabRes u N LL FF cd)) ∧ (∀ (x0 : Option Addr) (y0 : Nat) (x1 : Option Addr) (y1 : Nat) (u : World), RdT u x0 n0 M0 L0 f0 → RdR u x1 n1 f1 → Calls Try.prog 15 #[.slice x0 n0 y0, .slice x1 n1 y1] u (TabRes u N LL FF cd)) := by
    refine ⟨_, _, _, _, ?b1, ?b2, fun x0 y0 x1 y1 u z0 z1 => specCom_f x0 n0 y0 M0 L0 f0 x1 n1 y1 f1 u z0 B0.out.1 Q0.out Y0.out z1 (by omega), fun x0 y0 x1 y1 u z0 z1 => implCom_f x0 n0 y0 M0 L0 f0 x1 n1 y1 f1 u z0 B0.out.1 Q0.out Y0.out z1 (by omega)⟩
    case b1 => exact implCom_f_rows n0 M0 L0 f0 n1 f1
    case b2 => exact implCom_f_cols n0 M0 L0 f0 n1 f1
  obtain ⟨N, LL, FF, cd, hN, hLL, hS, hI⟩ := pair
  have HS := Lib.hid hS
  have HI := Lib.hid hI
  clear hS hI
  have hcd : (cd != cd) = false := by simp
  have hpr := pre_le hLL
  have HLL := Lib.hid hLL
  clear hLL
  obtain ⟨pn, hpn⟩ : ∃ pn, pn = pre LL N := ⟨_, rfl⟩
  rw [← hpn] at hpr
  have hpr' : pn ≤ 4096 := by omega
  have PN := Lib.hid hpn
  clear hpn hpr
  have hq0 : decide ((1 : Int) + (pn : Int) < 0) = false := by simp; omega
  have hq1 : ((1 : Int) + (pn : Int) != (1 : Int) + (pn : Int)) = false := by simp
  obtain ⟨p0, hp0⟩ : ∃ p, p = sum3 M0 L0 n0 := ⟨_, rfl⟩
  have hpb0 : p0 ≤ 1048576 := by rw [hp0]; exact Nat.le_trans (sum3_le _ _ _) (B0.out.2)
  have P0 := Lib.hid hp0
  clear hp0
  have hk0 : decide ((1 : Int) + (p0 : Int) + (n1 : Int) < 0) = false := by simp; omega
  go_enter Try.func3, Try.ntmps3
  go_wp2_with fail
  refine (S0.out).mono ?_
  rintro e w' ⟨rfl, rfl⟩
  go_wp2_with fail
  refine (toInt64SSS_f _ _ _ M0 L0 f0 _ (R0.out.below (Below.refl _ _) (Nat.le_refl _)) B0.out.1 Q0.out Y0.out).mono ?_
  rintro e w1 ⟨rfl, q, b⟩
  have C0 := Lib.hid q
  have ZC0 := Lib.hid b.size
  have BB := Lib.hid b
  clear b q
  have Tw1 := Lib.hid (show Below w.heap.size w w1 from BB.out)
  clear BB
  go_wp2_with fail
  refine (toInt64S_f _ _ _ f1 _ (R1.out.below Tw1.out (Nat.le_refl _)) (by omega)).mono ?_
  rintro e w2 ⟨rfl, q, b, sz⟩
  have C1 := Lib.hid q
  have ZC1 := Lib.hid sz
  have BB := Lib.hid b
  clear q b sz
  have Tw2 := Lib.hid (Tw1.out.trans ((BB.out).mono Tw1.out.size))
  have C0 := Lib.hid (C0.out.below (BB.out) (Nat.le_refl _))
  clear BB
  go_wp2_with fail
  refine (HS.out _ _ _ _ _ (C0.out.rd) (C1.out.rd)).mono ?_
  rintro e w3 ⟨sa, sc, rfl, q, b⟩
  have SR := Lib.hid q.rd
  clear q
  have BB := Lib.hid b
  clear b
  have Tw3 := Lib.hid (Tw2.out.trans ((BB.out).mono Tw2.out.size))
  clear BB
  have Uw3 := Lib.hid (Below.refl w3.heap.size w3)
  clear C0 C1
  go_wp2_with fail
  refine (toInt64SSS_f _ _ _ M0 L0 f0 _ (R0.out.below Tw3.out (Nat.le_refl _)) B0.out.1 Q0.out Y0.out).mono ?_
  rintro e w4 ⟨rfl, q, b⟩
  have D0 := Lib.hid q
  have ZD0 := Lib.hid b.size
  have BB := Lib.hid b
  clear b q
  have Tw4 := Lib.hid (Tw3.out.trans ((BB.out).mono Tw3.out.size))
  have Uw4 := Lib.hid (Uw3.out.trans ((BB.out).mono Uw3.out.size))
  have SZw4 := Lib.hid (show w3.heap.size ≤ w4.heap.size from (BB.out).size)
  clear BB
  go_wp2_with fail
  refine (toInt64S_f _ _ _ f1 _ (R1.out.below Tw4.out (Nat.le_refl _)) (by omega)).mono ?_
  rintro e w5 ⟨rfl, q, b, sz⟩
  have D1 := Lib.hid q
  have ZD1 := Lib.hid sz
  have BB := Lib.hid b
  clear q b sz
  have Tw5 := Lib.hid (Tw4.out.trans ((BB.out).mono Tw4.out.size))
  have Uw5 := Lib.hid (Uw4.out.trans ((BB.out).mono Uw4.out.size))
  have D0 := Lib.hid (D0.out.below (BB.out) (Nat.le_refl _))
  have SZw5 := Lib.hid (show w4.heap.size ≤ w5.heap.size from (BB.out).size)
  clear BB
  go_wp2_with fail
  refine (HI.out _ _ _ _ _ (D0.out.rd) (D1.out.rd)).mono ?_
  rintro e w6 ⟨ga, gc, rfl, q, b⟩
  have GR := Lib.hid q
  clear q
  have BB := Lib.hid b
  clear b
  have Tw6 := Lib.hid (Tw5.out.trans ((BB.out).mono Tw5.out.size))
  have Uw6 := Lib.hid (Uw5.out.trans ((BB.out).mono Uw5.out.size))
  have D0 := Lib.hid (D0.out.below (BB.out) (Nat.le_refl _))
  have D1 := Lib.hid (D1.out.below (BB.out) (RowB.lt D1.out))
  have SZw6 := Lib.hid (show w5.heap.size ≤ w6.heap.size from (BB.out).size)
  clear BB
  go_wp2_with fail
  refine (eqInt64SS_f _ _ _ _ _ _ _ _ GR.out.rd (SR.out.below Uw6.out (Nat.le_refl _)) (by omega) (fun i hi => Nat.le_trans (HLL.out i hi) (by omega))).mono ?_
  rintro e w7 ⟨rfl, b⟩
  have BB := Lib.hid b
  clear b
  have Tw7 := Lib.hid (Tw6.out.trans ((BB.out).mono Tw6.out.size))
  have Uw7 := Lib.hid (Uw6.out.trans ((BB.out).mono Uw6.out.size))
  have D0 := Lib.hid (D0.out.below (BB.out) (Nat.le_refl _))
  have D1 := Lib.hid (D1.out.below (BB.out) (RowB.lt D1.out))
  have GR := Lib.hid (GR.out.below (BB.out) (Nat.le_refl _))
  clear BB
  go_wp2_with fail
  refine (toInt64SSS_f _ _ _ M0 L0 f0 _ (R0.out.below Tw7.out (Nat.le_refl _)) B0.out.1 Q0.out Y0.out).mono ?_
  rintro e w8 ⟨rfl, q, b⟩
  have E0 := Lib.hid q
  have ZE0 := Lib.hid b.size
  have BB := Lib.hid b
  clear b q
  have Tw8 := Lib.hid (Tw7.out.trans ((BB.out).mono Tw7.out.size))
  have Uw8 := Lib.hid (Uw7.out.trans ((BB.out).mono Uw7.out.size))
  have D0 := Lib.hid (D0.out.below (BB.out) (Nat.le_refl _))
  have D1 := Lib.hid (D1.out.below (BB.out) (RowB.lt D1.out))
  have GR := Lib.hid (GR.out.below (BB.out) (Nat.le_refl _))
  clear BB
  go_wp2_with fail
  refine (eqInt64SSS_g _ _ _ _ _ _ _ _ _ D0.out.rd E0.out.rd (Nat.le_trans B0.out.1 (by omega)) (fun i hi => Nat.le_trans (Q0.out i hi) (by omega)) (fun i hi j hj => Nat.le_trans (Y0.out i hi j hj) (by omega))).mono ?_
  rintro e w9 ⟨rfl, b⟩
  have BB := Lib.hid b
  clear b
  have Tw9 := Lib.hid (Tw8.out.trans ((BB.out).mono Tw8.out.size))
  have Uw9 := Lib.hid (Uw8.out.trans ((BB.out).mono Uw8.out.size))
  have D0 := Lib.hid (D0.out.below (BB.out) (Nat.le_refl _))
  have D1 := Lib.hid (D1.out.below (BB.out) (RowB.lt D1.out))
  have GR := Lib.hid (GR.out.below (BB.out) (Nat.le_refl _))
  have E0 := Lib.hid (E0.out.below (BB.out) (Nat.le_refl _))
  clear BB
  clear E0 ZE0
  go_wp2_with fail
  refine (toInt64S_f _ _ _ f1 _ (R1.out.below Tw9.out (Nat.le_refl _)) (by omega)).mono ?_
  rintro e w10 ⟨rfl, q, b, sz⟩
  have E1 := Lib.hid q
  have ZE1 := Lib.hid sz
  have BB := Lib.hid b
  clear q b sz
  have Tw10 := Lib.hid (Tw9.out.trans ((BB.out).mono Tw9.out.size))
  have Uw10 := Lib.hid (Uw9.out.trans ((BB.out).mono Uw9.out.size))
  have D0 := Lib.hid (D0.out.below (BB.out) (Nat.le_refl _))
  have D1 := Lib.hid (D1.out.below (BB.out) (RowB.lt D1.out))
  have GR := Lib.hid (GR.out.below (BB.out) (Nat.le_refl _))
  clear BB
  go_wp2_with fail
  refine (eqInt64S_f _ _ _ _ _ _ _ D1.out.rd E1.out.rd (by omega)).mono ?_
  rintro e w11 ⟨rfl, b⟩
  have BB := Lib.hid b
  clear b
  have Tw11 := Lib.hid (Tw10.out.trans ((BB.out).mono Tw10.out.size))
  have Uw11 := Lib.hid (Uw10.out.trans ((BB.out).mono Uw10.out.size))
  have D0 := Lib.hid (D0.out.below (BB.out) (Nat.le_refl _))
  have D1 := Lib.hid (D1.out.below (BB.out) (RowB.lt D1.out))
  have GR := Lib.hid (GR.out.below (BB.out) (Nat.le_refl _))
  have E1 := Lib.hid (E1.out.below (BB.out) (RowB.lt E1.out))
  clear BB
  clear E1 ZE1
  go_wp2_with fail
  have MK0 := Lib.hid (show Calls Try.prog 19 #[.slice (some ⟨w3.heap.size, 0, none⟩) n0 n0, .int .i64 ((1 : Int))] w11 fun e w' => e = .returned (.int .i64 (((1 : Int)) + (p0 : Int))) ∧ Only (fun k => w3.heap.size ≤ k ∧ k < w4.heap.size) w11 w' from by rw [P0.out]; exact (markInt64SSS_o _ _ _ _ _ _ _ _ _ _ D0.out (Nat.le_trans B0.out.1 (by omega)) (fun i hi => Nat.le_trans (Q0.out i hi) (by omega)) (by rw [← P0.out]; omega) (by omega) (by omega)).mono fun _ _ h => ⟨h.1, h.2.2⟩)
  refine MK0.out.mono ?_
  rintro e w12 ⟨rfl, ho⟩
  have OO := Lib.hid ho
  clear ho
  have BO := Lib.hid (OO.out.below (B := w3.heap.size) (fun k hk => by have z0_ := SZw4.out; have z1_ := SZw5.out; have z2_ := SZw6.out; have := hk.1; omega))
  have Tw12 := Lib.hid (Tw11.out.trans (BO.out.mono Tw3.out.size))
  have Uw12 := Lib.hid (Uw11.out.trans (BO.out.mono Uw3.out.size))
  clear BO
  have D1 := Lib.hid (D1.out.only OO.out (fun hk => by have z0_ := SZw4.out; have z1_ := SZw5.out; have z2_ := SZw6.out; have z3 := ZD1.out; have h1 := hk.1; have h2 := hk.2; (try simp only at h1 h2); omega))
  have GR := Lib.hid (GR.out.only OO.out (fun k hk => by have z0_ := SZw4.out; have z1_ := SZw5.out; have z2_ := SZw6.out; have h2 := hk.2; omega))
  clear OO D0 MK0
  go_wp2_with fail
  have MK1 := Lib.hid ((markInt64S_f _ n1 n1 _ _ ((1 : Int) + (p0 : Int)) _ D1.out (by omega) (by omega) (by omega)).mono (fun _ _ h => And.intro h.1 (h.2.2.mono (Q := (fun k => w4.heap.size ≤ k ∧ k < w5.heap.size)) fun k hk => by have := ZD1.out; have hk2 : k = w4.heap.size := hk; exact ⟨by omega, by omega⟩)))
  refine MK1.out.mono ?_
  rintro e w13 ⟨rfl, ho⟩
  have OO := Lib.hid ho
  clear ho
  have BO := Lib.hid (OO.out.below (B := w3.heap.size) (fun k hk => by have z0_ := SZw4.out; have z1_ := SZw5.out; have z2_ := SZw6.out; have := hk.1; omega))
  have Tw13 := Lib.hid (Tw12.out.trans (BO.out.mono Tw3.out.size))
  have Uw13 := Lib.hid (Uw12.out.trans (BO.out.mono Uw3.out.size))
  clear BO
  have GR := Lib.hid (GR.out.only OO.out (fun k hk => by have z0_ := SZw4.out; have z1_ := SZw5.out; have z2_ := SZw6.out; have h2 := hk.2; omega))
  clear OO D1 MK1
  go_wp2_with fail
  refine (eqInt64SS_f _ _ _ _ _ _ _ _ GR.out.rd (SR.out.below Uw13.out (Nat.le_refl _)) (by omega) (fun i hi => Nat.le_trans (HLL.out i hi) (by omega))).mono ?_
  rintro e w14 ⟨rfl, b⟩
  have BB := Lib.hid b
  clear b
  have Tw14 := Lib.hid (Tw13.out.trans ((BB.out).mono Tw13.out.size))
  have Uw14 := Lib.hid (Uw13.out.trans ((BB.out).mono Uw13.out.size))
  have GR := Lib.hid (GR.out.below (BB.out) (Nat.le_refl _))
  clear BB
  go_wp2_with fail
  have MG := Lib.hid (show Calls Try.prog 21 #[.slice ga N gc, .int .i64 1] w14 fun e w' => e = .returned (.int .i64 (1 + (pn : Int))) ∧ OwnM w' w5.heap.size ga N LL (fun i j => (1 : Int) + (pre LL i : Nat) + j) ∧ Only (fun k => w5.heap.size ≤ k ∧ k < w14.heap.size) w14 w' from by rw [PN.out]; exact markInt64SS_own _ _ _ _ _ _ _ _ GR.out (by omega) (by rw [← PN.out]; omega) (by omega) (by omega))
  refine MG.out.mono ?_
  rintro e w15 ⟨rfl, q, ho⟩
  have GM := Lib.hid q
  have OO := Lib.hid ho
  clear q ho GR MG
  have BO := Lib.hid (OO.out.below (B := w5.heap.size) (fun k hk => by have z0_ := SZw4.out; have z1_ := SZw5.out; have z2_ := SZw6.out; have := hk.1; omega))
  have Tw15 := Lib.hid (Tw14.out.trans (BO.out.mono Tw5.out.size))
  have Uw15 := Lib.hid (Uw14.out.trans (BO.out.mono Uw5.out.size))
  clear BO
  clear OO
  go_wp2_with fail
  have HG := Lib.hid (show Calls Try.prog 22 #[.slice ga N gc, .int .i64 1] w15 fun e w' => e = .returned (.int .i64 (1 + (pn : Int))) ∧ w15 = w' from by rw [PN.out]; exact heldInt64SS_f _ _ _ _ _ _ GM.out.rd (by omega) (by rw [← PN.out]; omega) (by omega) (by omega))
  refine HG.out.mono ?_
  rintro e w' ⟨rfl, rfl⟩
  clear HG
  go_wp2_with fail
  refine (toInt64SSS_f _ _ _ M0 L0 f0 _ (R0.out.below Tw15.out (Nat.le_refl _)) B0.out.1 Q0.out Y0.out).mono ?_
  rintro e w16 ⟨rfl, q, b⟩
  have H0 := Lib.hid q
  have ZH0 := Lib.hid b.size
  have BB := Lib.hid b
  clear b q
  have Tw16 := Lib.hid (Tw15.out.trans ((BB.out).mono Tw15.out.size))
  have Uw16 := Lib.hid (Uw15.out.trans ((BB.out).mono Uw15.out.size))
  have GM := Lib.hid (GM.out.below (BB.out) (Nat.le_refl _))
  clear BB
  go_wp2_with fail
  refine (toInt64S_f _ _ _ f1 _ (R1.out.below Tw16.out (Nat.le_refl _)) (by omega)).mono ?_
  rintro e w17 ⟨rfl, q, b, sz⟩
  have H1 := Lib.hid q
  have ZH1 := Lib.hid sz
  have BB := Lib.hid b
  clear q b sz
  have Tw17 := Lib.hid (Tw16.out.trans ((BB.out).mono Tw16.out.size))
  have Uw17 := Lib.hid (Uw16.out.trans ((BB.out).mono Uw16.out.size))
  have GM := Lib.hid (GM.out.below (BB.out) (Nat.le_refl _))
  have H0 := Lib.hid (H0.out.below (BB.out) (Nat.le_refl _))
  clear BB
  go_wp2_with fail
  refine (HI.out _ _ _ _ _ (H0.out.rd) (H1.out.rd)).mono ?_
  rintro e w18 ⟨ha, hc, rfl, q, b⟩
  have HR := Lib.hid q.rd
  have BB := Lib.hid b
  clear q b
  have Tw18 := Lib.hid (Tw17.out.trans ((BB.out).mono Tw17.out.size))
  have Uw18 := Lib.hid (Uw17.out.trans ((BB.out).mono Uw17.out.size))
  have GM := Lib.hid (GM.out.below (BB.out) (Nat.le_refl _))
  clear BB
  go_wp2_with fail
  refine (eqInt64SS_f _ _ _ _ _ _ _ _ HR.out (SR.out.below Uw18.out (Nat.le_refl _)) (by omega) (fun i hi => Nat.le_trans (HLL.out i hi) (by omega))).mono ?_
  rintro e w19 ⟨rfl, b⟩
  have BB := Lib.hid b
  clear b
  have Tw19 := Lib.hid (Tw18.out.trans ((BB.out).mono Tw18.out.size))
  have Uw19 := Lib.hid (Uw18.out.trans ((BB.out).mono Uw18.out.size))
  have GM := Lib.hid (GM.out.below (BB.out) (Nat.le_refl _))
  clear BB
  go_wp2_with fail
  have HG := Lib.hid (show Calls Try.prog 22 #[.slice ga N gc, .int .i64 1] w19 fun e w' => e = .returned (.int .i64 (1 + (pn : Int))) ∧ w19 = w' from by rw [PN.out]; exact heldInt64SS_f _ _ _ _ _ _ GM.out.rd (by omega) (by rw [← PN.out]; omega) (by omega) (by omega))
  refine HG.out.mono ?_
  rintro e w' ⟨rfl, rfl⟩
  clear HG
  go_wp2_with fail
  go_ret
  exact ⟨rfl, Tw19.out⟩

set_option maxRecDepth 100000 in
theorem lifted (os : Os) (started : os.Started) (H : Type) (enc : TypeId × Value → H) :
    ReturnsInHanded {} Try.checked os 3 .any (Rows.fnExactCommonSpaceSpec.pre6 enc Try.prog Try.f3 Rows.fnExactCommonSpaceRow.domain false) (Rows.fnExactCommonSpaceSpec.post enc Try.prog Try.f3 false true false false) := by
  refine returnsInHanded_of_change (C := Try.checked) own started (by kernel_rfl) Try.func3
    (ChangeSpec.witness6 (enc := enc) (C := Try.checked) false ⟨#[], #[.slice none 0 0, .slice none 0 0], []⟩ 8 (by kernel_rfl) (by kernel_rfl) (by kernel_rfl) (by kernel_rfl)) ?_
  intro W base args ds gs before hval0 hW hcnd _
  have hval : ∀ (j : Nat) t v, Try.f3.params[j]? = some t → args[j]? = some v → Value.okWide Try.prog W .any base t v := hval0
  have hW' := hW
  obtain ⟨p, q, hA0, hV, rfl, hfz, hnd⟩ := hW
  have hA : DataW.TrodAll enc Try.prog W 0 (fun _ => true) true Try.f3.params.toList args.toList ds p := hA0
  rw [Try.params3] at hA hval
  obtain ⟨v0, vs0, d0, ds0, p0, q0, hargs, rfl, rfl, h0, t0⟩ := trodAll_cons hA
  obtain ⟨v1, vs1, d1, ds1, p1, q1, rfl, rfl, rfl, h1, t1⟩ := trodAll_cons t0
  obtain ⟨rfl, rfl, rfl⟩ := trodAll_nil t1
  obtain rfl : args = #[v0, v1] := by cases args; simp_all
  obtain ⟨rfl, rfl⟩ := trodVars_none hV
  obtain ⟨a0, n0, c0, rfl⟩ := okWide_slice Try.underlying22 (hval 0 22 v0 rfl rfl)
  obtain ⟨hm0, M0, L0, f0, hx0, hy0, r0⟩ := RdT_of_trod h0
  obtain ⟨a1, n1, c1, rfl⟩ := okWide_slice Try.underlying23 (hval 1 23 v1 rfl rfl)
  obtain ⟨hm1, f1, r1⟩ := RdR_of_trod h1
  clear hA0 hval0
  refine (walk W a0 n0 c0 M0 L0 f0 hm0 hx0 hy0 r0 a1 n1 c1 f1 hm1 r1).mono fun e W' ⟨he, hg⟩ => ?_
  subst he
  refine ⟨_, rfl, _, _, _, [], (p0 ++ (p1 ++ [])), [], hW', ?_, ?_, rfl, hg.frame _, fun h => by cases h⟩
  · exact (trodAll_cons_mk (shut_bool Try.underlying4 _) trodAll_mk0)
  · exact (trodAll_cons_mk (Below.trod laidOut (by kernel_rfl) (of_decide_eq_true (by kernel_rfl)) h0 hg (fun x hx => hW'.lt x (by simp [hx]))) (trodAll_cons_mk (Below.trod laidOut (by kernel_rfl) (of_decide_eq_true (by kernel_rfl)) h1 hg (fun x hx => hW'.lt x (by simp [hx]))) trodAll_mk0))

theorem over : Rows.fnExactCommonSpaceRow.holds Try.pinned (OpenSpec.ofChange Rows.fnExactCommonSpaceSpec) :=
  OpenClaim.holds_of_wide 3 Try.f3 rfl rfl rfl rfl rfl rfl rfl ⟨rfl, rfl, rfl, rfl, rfl⟩ rfl rfl rfl rfl rfl (by kernel_rfl) Try.func3 (by kernel_rfl)
    (of_decide_eq_true (by kernel_rfl)) (by unfold Func.isWrapper; first | (rw [if_pos (by decide +kernel)]; kernel_rfl) | (rw [if_neg (by decide +kernel)]; exact ⟨rfl, rfl⟩))
    (fun os started H enc _ => lifted os started H enc)

theorem proved : Rows.FnExactCommonSpaceSaid :=
  over
end Go.Proofs.Ytaffiohdjkbkkaa.fnExactCommonSpace
