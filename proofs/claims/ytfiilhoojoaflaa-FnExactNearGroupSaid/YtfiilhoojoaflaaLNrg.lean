/- 'FnExactNearGroup': for all arguments the law answers true. No further condition. -/
import Derived.Test.YtfiilhoojoaflaaRows
import Derived.Test.YtfiilhoojoaflaaFtN
import Derived.OpenShut
import Derived.Carry
namespace Go.Proofs.Ytfiilhoojoaflaa.fnExactNearGroup
open Go.ChangeShapes Go.WideShapes Go.ChangeAt Go.RowKit
set_option linter.unusedVariables false

theorem own : ownKnob Try.prog.godebug = none := by kernel_rfl
theorem laidOut : laidOutB Try.prog = true := by kernel_rfl
set_option maxHeartbeats 4000000 in
set_option maxRecDepth 100000 in
theorem walk (w : World) (a0 : Option Addr) (n0 c0 : Nat) (f0 : Nat → Int) (hm0 : n0 ≤ maxLen) (r0 : RdR w a0 n0 f0) (k1 : Int) (w1 : (Lit.int .i64 k1).wf = true) :
    Calls Try.prog 8 #[.slice a0 n0 c0, .int .i64 k1] w fun e w' => e = .returned (.bool true) ∧ Below w.heap.size w w' := by
  have R0 := Lib.hid r0
  clear r0
  have W1 := Lib.hid w1
  clear w1
  by_cases hl0 : 1048576 < n0
  · have hd0 : decide (1048576 < (n0 : Int)) = true := by simp; omega
    go_enter Try.func8, Try.ntmps8
    go_wp2_with fail
    go_ret
    exact ⟨rfl, Below.refl _ _⟩
  have hd0 : decide (1048576 < (n0 : Int)) = false := by simp; omega
  have pair : ∃ (N : Nat) (MM : Nat → Nat) (LL : Nat → Nat → Nat) (FF : Nat → Nat → Nat → Int) (cd : Int), N ≤ 64 ∧ (∀ i, i < N → MM i ≤ 64) ∧ (∀ i, i < N → ∀ j, j < MM i → LL i j ≤ 64) ∧ (∀ (x0 : Option Addr) (y0 : Nat) (u : World), RdR u x0 n0 f0 → Calls Try.prog 31 #[.slice x0 n0 y0, .int .i64 k1] u (RingRes u N MM LL FF cd)) ∧ (∀ (x0 : Option Addr) (y0 : Nat) (u : World), RdR u x0 n0 f0 → Calls Try.prog 32 #[.slice x0 n0 y0, .int .i64 k1] u (RingRes u N MM LL FF cd)) := by
    refine ⟨_, _, _, _, _, ?b1, ?b2, ?b3, fun x0 y0 u z0 => specNear_f x0 n0 y0 f0 k1 u z0 (by omega) W1.out, fun x0 y0 u z0 => implNear_f x0 n0 y0 f0 k1 u z0 (by omega) W1.out⟩
    case b1 => exact implNear_f_rows n0 f0 k1
    case b2 => exact implNear_f_cols n0 f0 k1
    case b3 => exact implNear_f_deep n0 f0 k1
  obtain ⟨N, MM, LL, FF, cd, hN, hMM, hLL, hS, hI⟩ := pair
  have HS := Lib.hid hS
  have HI := Lib.hid hI
  clear hS hI
  have hcd : (cd != cd) = false := by simp
  have hpr := sum3_bd hN hMM hLL
  have HMM := Lib.hid hMM
  have HLL := Lib.hid hLL
  clear hMM hLL
  obtain ⟨pn, hpn⟩ : ∃ pn, pn = sum3 MM LL N := ⟨_, rfl⟩
  rw [← hpn] at hpr
  have hpr' : pn ≤ 262144 := by omega
  have PN := Lib.hid hpn
  clear hpn hpr
  have hq0 : decide ((1 : Int) + (pn : Int) < 0) = false := by simp; omega
  have hq1 : ((1 : Int) + (pn : Int) != (1 : Int) + (pn : Int)) = false := by simp
  have hk0 : decide ((1 : Int) + (n0 : Int) < 0) = false := by simp; omega
  go_enter Try.func8, Try.ntmps8
  go_wp2_with fail
  refine (toInt64S_f _ _ _ f0 _ (R0.out.below (Below.refl _ _) (Nat.le_refl _)) (by omega)).mono ?_
  rintro e w1 ⟨rfl, q, b, sz⟩
  have C0 := Lib.hid q
  have ZC0 := Lib.hid sz
  have BB := Lib.hid b
  clear q b sz
  have Tw1 := Lib.hid (show Below w.heap.size w w1 from BB.out)
  clear BB
  go_wp2_with fail
  refine (HS.out _ _ _ (C0.out.rd)).mono ?_
  rintro e w2 ⟨sa, sc, rfl, q, b⟩
  have SR := Lib.hid q.rd
  clear q
  have BB := Lib.hid b
  clear b
  have Tw2 := Lib.hid (Tw1.out.trans ((BB.out).mono Tw1.out.size))
  clear BB
  have Uw2 := Lib.hid (Below.refl w2.heap.size w2)
  clear C0
  go_wp2_with fail
  obtain ⟨xW, hwx⟩ : ∃ x, x = w2.alloc (.cells #[.slice sa N sc] 29) := ⟨_, rfl⟩
  rw [← hwx]
  have BB := Lib.hid (show Below w2.heap.size w2 xW by rw [hwx]; exact below_alloc _ _)
  have kx := Lib.hid (show xW.cell? ⟨w2.heap.size, 0, none⟩ = some (.slice sa N sc) by rw [hwx]; exact cell_box _ _ _)
  have lx := Lib.hid (show w2.heap.size < xW.heap.size by rw [hwx]; simp)
  clear hwx
  have TxW := Lib.hid (Tw2.out.trans ((BB.out).mono Tw2.out.size))
  have UxW := Lib.hid (Uw2.out.trans ((BB.out).mono Uw2.out.size))
  have SZxW := Lib.hid (show w2.heap.size ≤ xW.heap.size from (BB.out).size)
  have KXW := kx
  have LXW := lx
  clear kx lx BB
  have LYW := Lib.hid (show w2.heap.size < xW.heap.size from LXW.out)
  refine (toInt64S_f _ _ _ f0 _ (R0.out.below TxW.out (Nat.le_refl _)) (by omega)).mono ?_
  rintro e w3 ⟨rfl, q, b, sz⟩
  have D0 := Lib.hid q
  have ZD0 := Lib.hid sz
  have BB := Lib.hid b
  clear q b sz
  have Tw3 := Lib.hid (TxW.out.trans ((BB.out).mono TxW.out.size))
  have Uw3 := Lib.hid (UxW.out.trans ((BB.out).mono UxW.out.size))
  have KXW := Lib.hid (((BB.out).cell (p := ⟨w2.heap.size, 0, none⟩) LXW.out).trans KXW.out)
  have LXW := Lib.hid (Nat.lt_of_lt_of_le LXW.out (BB.out).size)
  have SZw3 := Lib.hid (show xW.heap.size ≤ w3.heap.size from (BB.out).size)
  clear BB
  have eXW := KXW.out
  go_wp2_with fail
  clear eXW
  refine (HI.out _ _ _ (D0.out.rd)).mono ?_
  rintro e w4 ⟨ga, gc, rfl, q, b⟩
  have GR := Lib.hid q
  clear q
  have BB := Lib.hid b
  clear b
  have Tw4 := Lib.hid (Tw3.out.trans ((BB.out).mono Tw3.out.size))
  have Uw4 := Lib.hid (Uw3.out.trans ((BB.out).mono Uw3.out.size))
  have KXW := Lib.hid (((BB.out).cell (p := ⟨w2.heap.size, 0, none⟩) LXW.out).trans KXW.out)
  have LXW := Lib.hid (Nat.lt_of_lt_of_le LXW.out (BB.out).size)
  have D0 := Lib.hid (D0.out.below (BB.out) (RowB.lt D0.out))
  have SZw4 := Lib.hid (show w3.heap.size ≤ w4.heap.size from (BB.out).size)
  clear BB
  have eXW := ((below_alloc w4 (.cells #[.slice ga N gc] 29)).cell (p := ⟨w2.heap.size, 0, none⟩) LXW.out).trans KXW.out
  go_wp2_with fail
  obtain ⟨xG, hwx⟩ : ∃ x, x = w4.alloc (.cells #[.slice ga N gc] 29) := ⟨_, rfl⟩
  rw [← hwx]
  have BB := Lib.hid (show Below w4.heap.size w4 xG by rw [hwx]; exact below_alloc _ _)
  have kx := Lib.hid (show xG.cell? ⟨w4.heap.size, 0, none⟩ = some (.slice ga N gc) by rw [hwx]; exact cell_box _ _ _)
  have lx := Lib.hid (show w4.heap.size < xG.heap.size by rw [hwx]; simp)
  clear hwx
  have TxG := Lib.hid (Tw4.out.trans ((BB.out).mono Tw4.out.size))
  have UxG := Lib.hid (Uw4.out.trans ((BB.out).mono Uw4.out.size))
  have KXW := Lib.hid (((BB.out).cell (p := ⟨w2.heap.size, 0, none⟩) LXW.out).trans KXW.out)
  have LXW := Lib.hid (Nat.lt_of_lt_of_le LXW.out (BB.out).size)
  have D0 := Lib.hid (D0.out.below (BB.out) (RowB.lt D0.out))
  have GR := Lib.hid (GR.out.below (BB.out) (Nat.le_refl _))
  have KXG := kx
  have LXG := lx
  clear kx lx BB
  clear eXW
  refine (eqRing_f _ _ _ _ _ _ _ _ _ GR.out.rd (SR.out.below UxG.out (Nat.le_refl _)) (by omega) (fun i hi => Nat.le_trans (HMM.out i hi) (by omega)) (fun i hi j hj => Nat.le_trans (HLL.out i hi j hj) (by omega))).mono ?_
  rintro e w5 ⟨rfl, b⟩
  have BB := Lib.hid b
  clear b
  have Tw5 := Lib.hid (TxG.out.trans ((BB.out).mono TxG.out.size))
  have Uw5 := Lib.hid (UxG.out.trans ((BB.out).mono UxG.out.size))
  have KXW := Lib.hid (((BB.out).cell (p := ⟨w2.heap.size, 0, none⟩) LXW.out).trans KXW.out)
  have LXW := Lib.hid (Nat.lt_of_lt_of_le LXW.out (BB.out).size)
  have KXG := Lib.hid (((BB.out).cell (p := ⟨w4.heap.size, 0, none⟩) LXG.out).trans KXG.out)
  have LXG := Lib.hid (Nat.lt_of_lt_of_le LXG.out (BB.out).size)
  have D0 := Lib.hid (D0.out.below (BB.out) (RowB.lt D0.out))
  have GR := Lib.hid (GR.out.below (BB.out) (Nat.le_refl _))
  clear BB
  go_wp2_with fail
  refine (toInt64S_f _ _ _ f0 _ (R0.out.below Tw5.out (Nat.le_refl _)) (by omega)).mono ?_
  rintro e w6 ⟨rfl, q, b, sz⟩
  have E0 := Lib.hid q
  have ZE0 := Lib.hid sz
  have BB := Lib.hid b
  clear q b sz
  have Tw6 := Lib.hid (Tw5.out.trans ((BB.out).mono Tw5.out.size))
  have Uw6 := Lib.hid (Uw5.out.trans ((BB.out).mono Uw5.out.size))
  have KXW := Lib.hid (((BB.out).cell (p := ⟨w2.heap.size, 0, none⟩) LXW.out).trans KXW.out)
  have LXW := Lib.hid (Nat.lt_of_lt_of_le LXW.out (BB.out).size)
  have KXG := Lib.hid (((BB.out).cell (p := ⟨w4.heap.size, 0, none⟩) LXG.out).trans KXG.out)
  have LXG := Lib.hid (Nat.lt_of_lt_of_le LXG.out (BB.out).size)
  have D0 := Lib.hid (D0.out.below (BB.out) (RowB.lt D0.out))
  have GR := Lib.hid (GR.out.below (BB.out) (Nat.le_refl _))
  clear BB
  go_wp2_with fail
  refine (eqInt64S_f _ _ _ _ _ _ _ D0.out.rd E0.out.rd (by omega)).mono ?_
  rintro e w7 ⟨rfl, b⟩
  have BB := Lib.hid b
  clear b
  have Tw7 := Lib.hid (Tw6.out.trans ((BB.out).mono Tw6.out.size))
  have Uw7 := Lib.hid (Uw6.out.trans ((BB.out).mono Uw6.out.size))
  have KXW := Lib.hid (((BB.out).cell (p := ⟨w2.heap.size, 0, none⟩) LXW.out).trans KXW.out)
  have LXW := Lib.hid (Nat.lt_of_lt_of_le LXW.out (BB.out).size)
  have KXG := Lib.hid (((BB.out).cell (p := ⟨w4.heap.size, 0, none⟩) LXG.out).trans KXG.out)
  have LXG := Lib.hid (Nat.lt_of_lt_of_le LXG.out (BB.out).size)
  have D0 := Lib.hid (D0.out.below (BB.out) (RowB.lt D0.out))
  have GR := Lib.hid (GR.out.below (BB.out) (Nat.le_refl _))
  have E0 := Lib.hid (E0.out.below (BB.out) (RowB.lt E0.out))
  clear BB
  clear E0 ZE0
  go_wp2_with fail
  have MK0 := Lib.hid ((markInt64S_f _ n0 n0 _ _ ((1 : Int)) _ D0.out (by omega) (by omega) (by omega)).mono (fun _ _ h => And.intro h.1 (h.2.2.mono (Q := (fun k => xW.heap.size ≤ k ∧ k < w3.heap.size)) fun k hk => by have := ZD0.out; have hk2 : k = xW.heap.size := hk; exact ⟨by omega, by omega⟩)))
  refine MK0.out.mono ?_
  rintro e w8 ⟨rfl, ho⟩
  have OO := Lib.hid ho
  clear ho
  have BO := Lib.hid (OO.out.below (B := w2.heap.size) (fun k hk => by have z0_ := SZxW.out; have z1_ := LYW.out; have z2_ := SZw3.out; have z3_ := SZw4.out; have := hk.1; omega))
  have Tw8 := Lib.hid (Tw7.out.trans (BO.out.mono Tw2.out.size))
  have Uw8 := Lib.hid (Uw7.out.trans (BO.out.mono Uw2.out.size))
  clear BO
  have KXW := Lib.hid ((OO.out.cell (p := ⟨w2.heap.size, 0, none⟩) (fun hk => by have z0_ := SZxW.out; have z1_ := LYW.out; have z2_ := SZw3.out; have z3_ := SZw4.out; have h1 := hk.1; have h2 := hk.2; (try simp only at h1 h2); omega)).trans KXW.out)
  have LXW := Lib.hid (show w2.heap.size < w8.heap.size by rw [OO.out.size]; exact LXW.out)
  have KXG := Lib.hid ((OO.out.cell (p := ⟨w4.heap.size, 0, none⟩) (fun hk => by have z0_ := SZxW.out; have z1_ := LYW.out; have z2_ := SZw3.out; have z3_ := SZw4.out; have h1 := hk.1; have h2 := hk.2; (try simp only at h1 h2); omega)).trans KXG.out)
  have LXG := Lib.hid (show w4.heap.size < w8.heap.size by rw [OO.out.size]; exact LXG.out)
  have GR := Lib.hid (GR.out.only OO.out (fun k hk hk3 => by have z0_ := SZxW.out; have z1_ := LYW.out; have z2_ := SZw3.out; have z3_ := SZw4.out; have h3 := hk3.1; have h2 := hk.2; omega))
  clear OO D0 MK0
  have eXW := KXW.out
  have eXG := KXG.out
  go_wp2_with fail
  clear eXW eXG
  refine (eqRing_f _ _ _ _ _ _ _ _ _ GR.out.rd (SR.out.below Uw8.out (Nat.le_refl _)) (by omega) (fun i hi => Nat.le_trans (HMM.out i hi) (by omega)) (fun i hi j hj => Nat.le_trans (HLL.out i hi j hj) (by omega))).mono ?_
  rintro e w9 ⟨rfl, b⟩
  have BB := Lib.hid b
  clear b
  have Tw9 := Lib.hid (Tw8.out.trans ((BB.out).mono Tw8.out.size))
  have Uw9 := Lib.hid (Uw8.out.trans ((BB.out).mono Uw8.out.size))
  have KXW := Lib.hid (((BB.out).cell (p := ⟨w2.heap.size, 0, none⟩) LXW.out).trans KXW.out)
  have LXW := Lib.hid (Nat.lt_of_lt_of_le LXW.out (BB.out).size)
  have KXG := Lib.hid (((BB.out).cell (p := ⟨w4.heap.size, 0, none⟩) LXG.out).trans KXG.out)
  have LXG := Lib.hid (Nat.lt_of_lt_of_le LXG.out (BB.out).size)
  have GR := Lib.hid (GR.out.below (BB.out) (Nat.le_refl _))
  clear BB
  have eXG := KXG.out
  go_wp2_with fail
  clear eXG
  have MG := Lib.hid (show Calls Try.prog 18 #[.agg #[.slice ga N gc], .int .i64 1] w9 fun e w' => e = .returned (.int .i64 (1 + (pn : Int))) ∧ OwnT w' w3.heap.size w4.heap.size ga N MM LL (fun i j k => (1 : Int) + (sum3 MM LL i : Nat) + (pre (LL i) j : Nat) + k) ∧ ∃ o, Only (fun k => w3.heap.size ≤ k ∧ k < w4.heap.size) (w9.alloc o) w' from by rw [PN.out]; exact markRing_own _ _ _ _ _ _ _ _ _ _ GR.out (by omega) (fun i hi => Nat.le_trans (HMM.out i hi) (by omega)) (by rw [← PN.out]; omega) (by omega) (by omega))
  refine MG.out.mono ?_
  rintro e w10 ⟨rfl, q, oo, ho⟩
  obtain ⟨w10m, hwm⟩ : ∃ x, x = w9.alloc oo := ⟨_, rfl⟩
  rw [← hwm] at ho
  have BB := Lib.hid (show Below w9.heap.size w9 w10m by rw [hwm]; exact below_alloc _ _)
  clear hwm
  have Tw10m := Lib.hid (Tw9.out.trans ((BB.out).mono Tw9.out.size))
  have Uw10m := Lib.hid (Uw9.out.trans ((BB.out).mono Uw9.out.size))
  have KXW := Lib.hid (((BB.out).cell (p := ⟨w2.heap.size, 0, none⟩) LXW.out).trans KXW.out)
  have LXW := Lib.hid (Nat.lt_of_lt_of_le LXW.out (BB.out).size)
  have KXG := Lib.hid (((BB.out).cell (p := ⟨w4.heap.size, 0, none⟩) LXG.out).trans KXG.out)
  have LXG := Lib.hid (Nat.lt_of_lt_of_le LXG.out (BB.out).size)
  clear BB
  have GM := Lib.hid q
  have OO := Lib.hid ho
  clear q ho GR MG
  have BO := Lib.hid (OO.out.below (B := w3.heap.size) (fun k hk => by have z0_ := SZxW.out; have z1_ := LYW.out; have z2_ := SZw3.out; have z3_ := SZw4.out; have := hk.1; omega))
  have Tw10 := Lib.hid (Tw10m.out.trans (BO.out.mono Tw3.out.size))
  have Uw10 := Lib.hid (Uw10m.out.trans (BO.out.mono Uw3.out.size))
  clear BO
  have KXW := Lib.hid ((OO.out.cell (p := ⟨w2.heap.size, 0, none⟩) (fun hk => by have z0_ := SZxW.out; have z1_ := LYW.out; have z2_ := SZw3.out; have z3_ := SZw4.out; have h1 := hk.1; have h2 := hk.2; (try simp only at h1 h2); omega)).trans KXW.out)
  have LXW := Lib.hid (show w2.heap.size < w10.heap.size by rw [OO.out.size]; exact LXW.out)
  have KXG := Lib.hid ((OO.out.cell (p := ⟨w4.heap.size, 0, none⟩) (fun hk => by have z0_ := SZxW.out; have z1_ := LYW.out; have z2_ := SZw3.out; have z3_ := SZw4.out; have h1 := hk.1; have h2 := hk.2; (try simp only at h1 h2); omega)).trans KXG.out)
  have LXG := Lib.hid (show w4.heap.size < w10.heap.size by rw [OO.out.size]; exact LXG.out)
  clear OO
  have eXG := KXG.out
  go_wp2_with fail
  clear eXG
  have HG := Lib.hid (show Calls Try.prog 24 #[.agg #[.slice ga N gc], .int .i64 1] w10 fun e w' => e = .returned (.int .i64 (1 + (pn : Int))) ∧ Below w10.heap.size w10 w' from by rw [PN.out]; exact heldRing_f _ _ _ _ _ _ _ GM.out.rd (by omega) (fun i hi => Nat.le_trans (HMM.out i hi) (by omega)) (by rw [← PN.out]; omega) (by omega) (by omega))
  refine HG.out.mono ?_
  rintro e w11 ⟨rfl, b⟩
  have BB := Lib.hid b
  clear b HG
  have Tw11 := Lib.hid (Tw10.out.trans ((BB.out).mono Tw10.out.size))
  have Uw11 := Lib.hid (Uw10.out.trans ((BB.out).mono Uw10.out.size))
  have KXW := Lib.hid (((BB.out).cell (p := ⟨w2.heap.size, 0, none⟩) LXW.out).trans KXW.out)
  have LXW := Lib.hid (Nat.lt_of_lt_of_le LXW.out (BB.out).size)
  have KXG := Lib.hid (((BB.out).cell (p := ⟨w4.heap.size, 0, none⟩) LXG.out).trans KXG.out)
  have LXG := Lib.hid (Nat.lt_of_lt_of_le LXG.out (BB.out).size)
  have GM := Lib.hid (GM.out.below (BB.out) (Nat.le_refl _))
  clear BB
  go_wp2_with fail
  refine (toInt64S_f _ _ _ f0 _ (R0.out.below Tw11.out (Nat.le_refl _)) (by omega)).mono ?_
  rintro e w12 ⟨rfl, q, b, sz⟩
  have H0 := Lib.hid q
  have ZH0 := Lib.hid sz
  have BB := Lib.hid b
  clear q b sz
  have Tw12 := Lib.hid (Tw11.out.trans ((BB.out).mono Tw11.out.size))
  have Uw12 := Lib.hid (Uw11.out.trans ((BB.out).mono Uw11.out.size))
  have KXW := Lib.hid (((BB.out).cell (p := ⟨w2.heap.size, 0, none⟩) LXW.out).trans KXW.out)
  have LXW := Lib.hid (Nat.lt_of_lt_of_le LXW.out (BB.out).size)
  have KXG := Lib.hid (((BB.out).cell (p := ⟨w4.heap.size, 0, none⟩) LXG.out).trans KXG.out)
  have LXG := Lib.hid (Nat.lt_of_lt_of_le LXG.out (BB.out).size)
  have GM := Lib.hid (GM.out.below (BB.out) (Nat.le_refl _))
  clear BB
  go_wp2_with fail
  refine (HI.out _ _ _ (H0.out.rd)).mono ?_
  rintro e w13 ⟨ha, hc, rfl, q, b⟩
  have HR := Lib.hid q.rd
  have BB := Lib.hid b
  clear q b
  have Tw13 := Lib.hid (Tw12.out.trans ((BB.out).mono Tw12.out.size))
  have Uw13 := Lib.hid (Uw12.out.trans ((BB.out).mono Uw12.out.size))
  have KXW := Lib.hid (((BB.out).cell (p := ⟨w2.heap.size, 0, none⟩) LXW.out).trans KXW.out)
  have LXW := Lib.hid (Nat.lt_of_lt_of_le LXW.out (BB.out).size)
  have KXG := Lib.hid (((BB.out).cell (p := ⟨w4.heap.size, 0, none⟩) LXG.out).trans KXG.out)
  have LXG := Lib.hid (Nat.lt_of_lt_of_le LXG.out (BB.out).size)
  have GM := Lib.hid (GM.out.below (BB.out) (Nat.le_refl _))
  clear BB
  have eXW := ((below_alloc w13 (.cells #[.slice ha N hc] 29)).cell (p := ⟨w2.heap.size, 0, none⟩) LXW.out).trans KXW.out
  have eXG := ((below_alloc w13 (.cells #[.slice ha N hc] 29)).cell (p := ⟨w4.heap.size, 0, none⟩) LXG.out).trans KXG.out
  go_wp2_with fail
  obtain ⟨xH, hwx⟩ : ∃ x, x = w13.alloc (.cells #[.slice ha N hc] 29) := ⟨_, rfl⟩
  rw [← hwx]
  have BB := Lib.hid (show Below w13.heap.size w13 xH by rw [hwx]; exact below_alloc _ _)
  have kx := Lib.hid (show xH.cell? ⟨w13.heap.size, 0, none⟩ = some (.slice ha N hc) by rw [hwx]; exact cell_box _ _ _)
  have lx := Lib.hid (show w13.heap.size < xH.heap.size by rw [hwx]; simp)
  clear hwx
  have TxH := Lib.hid (Tw13.out.trans ((BB.out).mono Tw13.out.size))
  have UxH := Lib.hid (Uw13.out.trans ((BB.out).mono Uw13.out.size))
  have KXW := Lib.hid (((BB.out).cell (p := ⟨w2.heap.size, 0, none⟩) LXW.out).trans KXW.out)
  have LXW := Lib.hid (Nat.lt_of_lt_of_le LXW.out (BB.out).size)
  have KXG := Lib.hid (((BB.out).cell (p := ⟨w4.heap.size, 0, none⟩) LXG.out).trans KXG.out)
  have LXG := Lib.hid (Nat.lt_of_lt_of_le LXG.out (BB.out).size)
  have GM := Lib.hid (GM.out.below (BB.out) (Nat.le_refl _))
  have HR := Lib.hid (HR.out.below (BB.out) (Nat.le_refl _))
  have KXH := kx
  have LXH := lx
  clear kx lx BB
  clear eXW eXG
  refine (eqRing_f _ _ _ _ _ _ _ _ _ HR.out (SR.out.below UxH.out (Nat.le_refl _)) (by omega) (fun i hi => Nat.le_trans (HMM.out i hi) (by omega)) (fun i hi j hj => Nat.le_trans (HLL.out i hi j hj) (by omega))).mono ?_
  rintro e w14 ⟨rfl, b⟩
  have BB := Lib.hid b
  clear b
  have Tw14 := Lib.hid (TxH.out.trans ((BB.out).mono TxH.out.size))
  have Uw14 := Lib.hid (UxH.out.trans ((BB.out).mono UxH.out.size))
  have KXW := Lib.hid (((BB.out).cell (p := ⟨w2.heap.size, 0, none⟩) LXW.out).trans KXW.out)
  have LXW := Lib.hid (Nat.lt_of_lt_of_le LXW.out (BB.out).size)
  have KXG := Lib.hid (((BB.out).cell (p := ⟨w4.heap.size, 0, none⟩) LXG.out).trans KXG.out)
  have LXG := Lib.hid (Nat.lt_of_lt_of_le LXG.out (BB.out).size)
  have KXH := Lib.hid (((BB.out).cell (p := ⟨w13.heap.size, 0, none⟩) LXH.out).trans KXH.out)
  have LXH := Lib.hid (Nat.lt_of_lt_of_le LXH.out (BB.out).size)
  have GM := Lib.hid (GM.out.below (BB.out) (Nat.le_refl _))
  have HR := Lib.hid (HR.out.below (BB.out) (Nat.le_refl _))
  clear BB
  have eXG := KXG.out
  go_wp2_with fail
  clear eXG
  have HG := Lib.hid (show Calls Try.prog 24 #[.agg #[.slice ga N gc], .int .i64 1] w14 fun e w' => e = .returned (.int .i64 (1 + (pn : Int))) ∧ Below w14.heap.size w14 w' from by rw [PN.out]; exact heldRing_f _ _ _ _ _ _ _ GM.out.rd (by omega) (fun i hi => Nat.le_trans (HMM.out i hi) (by omega)) (by rw [← PN.out]; omega) (by omega) (by omega))
  refine HG.out.mono ?_
  rintro e w15 ⟨rfl, b⟩
  have BB := Lib.hid b
  clear b HG
  have Tw15 := Lib.hid (Tw14.out.trans ((BB.out).mono Tw14.out.size))
  have Uw15 := Lib.hid (Uw14.out.trans ((BB.out).mono Uw14.out.size))
  have KXW := Lib.hid (((BB.out).cell (p := ⟨w2.heap.size, 0, none⟩) LXW.out).trans KXW.out)
  have LXW := Lib.hid (Nat.lt_of_lt_of_le LXW.out (BB.out).size)
  have KXG := Lib.hid (((BB.out).cell (p := ⟨w4.heap.size, 0, none⟩) LXG.out).trans KXG.out)
  have LXG := Lib.hid (Nat.lt_of_lt_of_le LXG.out (BB.out).size)
  have KXH := Lib.hid (((BB.out).cell (p := ⟨w13.heap.size, 0, none⟩) LXH.out).trans KXH.out)
  have LXH := Lib.hid (Nat.lt_of_lt_of_le LXH.out (BB.out).size)
  have GM := Lib.hid (GM.out.below (BB.out) (Nat.le_refl _))
  clear BB
  go_wp2_with fail
  go_ret
  exact ⟨rfl, Tw15.out⟩

set_option maxRecDepth 100000 in
theorem lifted (os : Os) (started : os.Started) (H : Type) (enc : TypeId × Value → H) :
    ReturnsInHanded {} Try.checked os 8 .any (Rows.fnExactNearGroupSpec.pre6 enc Try.prog Try.f8 Rows.fnExactNearGroupRow.domain false) (Rows.fnExactNearGroupSpec.post enc Try.prog Try.f8 false true false false) := by
  refine returnsInHanded_of_change (C := Try.checked) own started (by kernel_rfl) Try.func8
    (ChangeSpec.witness6 (enc := enc) (C := Try.checked) false ⟨#[], #[.slice none 0 0, .int .i64 0], []⟩ 8 (by kernel_rfl) (by kernel_rfl) (by kernel_rfl) (by kernel_rfl)) ?_
  intro W base args ds gs before hval0 hW hcnd _
  have hval : ∀ (j : Nat) t v, Try.f8.params[j]? = some t → args[j]? = some v → Value.okWide Try.prog W .any base t v := hval0
  have hW' := hW
  obtain ⟨p, q, hA0, hV, rfl, hfz, hnd⟩ := hW
  have hA : DataW.TrodAll enc Try.prog W 0 (fun _ => true) true Try.f8.params.toList args.toList ds p := hA0
  rw [Try.params8] at hA hval
  obtain ⟨v0, vs0, d0, ds0, p0, q0, hargs, rfl, rfl, h0, t0⟩ := trodAll_cons hA
  obtain ⟨v1, vs1, d1, ds1, p1, q1, rfl, rfl, rfl, h1, t1⟩ := trodAll_cons t0
  obtain ⟨rfl, rfl, rfl⟩ := trodAll_nil t1
  obtain rfl : args = #[v0, v1] := by cases args; simp_all
  obtain ⟨rfl, rfl⟩ := trodVars_none hV
  obtain ⟨a0, n0, c0, rfl⟩ := okWide_slice Try.underlying26 (hval 0 26 v0 rfl rfl)
  obtain ⟨hm0, f0, r0⟩ := RdR_of_trod h0
  obtain ⟨k1, rfl, rfl, rfl, w1⟩ := open_int Try.underlying2 (hval 1 2 v1 rfl rfl) h1
  clear hA0 hval0
  refine (walk W a0 n0 c0 f0 hm0 r0 k1 w1).mono fun e W' ⟨he, hg⟩ => ?_
  subst he
  refine ⟨_, rfl, _, _, _, [], (p0 ++ ([] ++ [])), [], hW', ?_, ?_, rfl, hg.frame _, fun h => by cases h⟩
  · exact (trodAll_cons_mk (shut_bool Try.underlying4 _) trodAll_mk0)
  · exact (trodAll_cons_mk (Below.trod laidOut (by kernel_rfl) (of_decide_eq_true (by kernel_rfl)) h0 hg (fun x hx => hW'.lt x (by simp [hx]))) (trodAll_cons_mk (shut_int Try.underlying2 w1) trodAll_mk0))

theorem over : Rows.fnExactNearGroupRow.holds Try.pinned (OpenSpec.ofChange Rows.fnExactNearGroupSpec) :=
  OpenClaim.holds_of_wide 8 Try.f8 rfl rfl rfl rfl rfl rfl rfl ⟨rfl, rfl, rfl, rfl, rfl⟩ rfl rfl rfl rfl rfl (by kernel_rfl) Try.func8 (by kernel_rfl)
    (of_decide_eq_true (by kernel_rfl)) (by unfold Func.isWrapper; first | (rw [if_pos (by decide +kernel)]; kernel_rfl) | (rw [if_neg (by decide +kernel)]; exact ⟨rfl, rfl⟩))
    (fun os started H enc _ => lifted os started H enc)

theorem proved : Rows.FnExactNearGroupSaid :=
  over
end Go.Proofs.Ytfiilhoojoaflaa.fnExactNearGroup
