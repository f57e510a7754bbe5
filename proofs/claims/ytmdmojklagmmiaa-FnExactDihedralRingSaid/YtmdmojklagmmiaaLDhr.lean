/- 'FnExactDihedralRing': for all arguments the law answers true. No further condition. -/
import Derived.Test.YtmdmojklagmmiaaRows
import Derived.Test.YtmdmojklagmmiaaFtH
import Derived.OpenShut
import Derived.Carry
namespace Go.Proofs.Ytmdmojklagmmiaa.fnExactDihedralRing
open Go.ChangeShapes Go.WideShapes Go.ChangeAt Go.RowKit
set_option linter.unusedVariables false

theorem own : ownKnob Try.prog.godebug = none := by kernel_rfl
theorem laidOut : laidOutB Try.prog = true := by kernel_rfl
set_option maxHeartbeats 4000000 in
set_option maxRecDepth 100000 in
theorem walk (w : World) (k0 : Int) (w0 : (Lit.int .i64 k0).wf = true) :
    Calls Try.prog 5 #[.int .i64 k0] w fun e w' => e = .returned (.bool true) ∧ Below w.heap.size w w' := by
  have W0 := Lib.hid w0
  clear w0
  have pair : ∃ (N : Nat) (MM : Nat → Nat) (LL : Nat → Nat → Nat) (FF : Nat → Nat → Nat → Int) (cd : Int), N ≤ 64 ∧ (∀ i, i < N → MM i ≤ 64) ∧ (∀ i, i < N → ∀ j, j < MM i → LL i j ≤ 64) ∧ (∀  (u : World), Calls Try.prog 19 #[.int .i64 k0] u (RingRes u N MM LL FF cd)) ∧ (∀  (u : World), Calls Try.prog 20 #[.int .i64 k0] u (RingRes u N MM LL FF cd)) := by
    refine ⟨_, _, _, _, _, ?b1, ?b2, ?b3, fun  u  => specDihedralRing_f k0 u W0.out, fun  u  => implDihedralRing_f k0 u W0.out⟩
    case b1 => exact implDihedralRing_f_rows k0
    case b2 => exact implDihedralRing_f_cols k0
    case b3 => exact implDihedralRing_f_deep k0
  obtain ⟨N, MM, LL, FF, cd, hN, hMM, hLL, hS, hI⟩ := pair
  have HS := Lib.hid hS
  have HI := Lib.hid hI
  clear hS hI
  have hcd : (cd != cd) = false := by simp
  have hpr := sum3_bd hN hMM hLL
  have HMM := Lib.hid hMM
  have HLL := Lib.hid hLL
  clear hMM hLL
  obtain ⟨pn, hpn⟩ : ∃ pn, pn = sum3 MM LL N := ⟨_, rfl⟩
  rw [← hpn] at hpr
  have hpr' : pn ≤ 262144 := by omega
  have PN := Lib.hid hpn
  clear hpn hpr
  have hq0 : decide ((1 : Int) + (pn : Int) < 0) = false := by simp; omega
  have hq1 : ((1 : Int) + (pn : Int) != (1 : Int) + (pn : Int)) = false := by simp
  have hk0 : decide ((1 : Int) < 0) = false := by decide
  go_enter Try.func5, Try.ntmps5
  go_wp2_with fail
  refine (HS.out  _ ).mono ?_
  rintro e w1 ⟨sa, sc, rfl, q, b⟩
  have SR := Lib.hid q.rd
  clear q
  have BB := Lib.hid b
  clear b
  have Tw1 := Lib.hid (show Below w.heap.size w w1 from BB.out)
  clear BB
  have Uw1 := Lib.hid (Below.refl w1.heap.size w1)
  go_wp2_with fail
  obtain ⟨xW, hwx⟩ : ∃ x, x = w1.alloc (.cells #[.slice sa N sc] 29) := ⟨_, rfl⟩
  rw [← hwx]
  have BB := Lib.hid (show Below w1.heap.size w1 xW by rw [hwx]; exact below_alloc _ _)
  have kx := Lib.hid (show xW.cell? ⟨w1.heap.size, 0, none⟩ = some (.slice sa N sc) by rw [hwx]; exact cell_box _ _ _)
  have lx := Lib.hid (show w1.heap.size < xW.heap.size by rw [hwx]; simp)
  clear hwx
  have TxW := Lib.hid (Tw1.out.trans ((BB.out).mono Tw1.out.size))
  have UxW := Lib.hid (Uw1.out.trans ((BB.out).mono Uw1.out.size))
  have SZxW := Lib.hid (show w1.heap.size ≤ xW.heap.size from (BB.out).size)
  have KXW := kx
  have LXW := lx
  clear kx lx BB
  have LYW := Lib.hid (show w1.heap.size < xW.heap.size from LXW.out)
  refine (HI.out  _ ).mono ?_
  rintro e w2 ⟨ga, gc, rfl, q, b⟩
  have GR := Lib.hid q
  clear q
  have BB := Lib.hid b
  clear b
  have Tw2 := Lib.hid (TxW.out.trans ((BB.out).mono TxW.out.size))
  have Uw2 := Lib.hid (UxW.out.trans ((BB.out).mono UxW.out.size))
  have KXW := Lib.hid (((BB.out).cell (p := ⟨w1.heap.size, 0, none⟩) LXW.out).trans KXW.out)
  have LXW := Lib.hid (Nat.lt_of_lt_of_le LXW.out (BB.out).size)
  have SZw2 := Lib.hid (show xW.heap.size ≤ w2.heap.size from (BB.out).size)
  clear BB
  have eXW := ((below_alloc w2 (.cells #[.slice ga N gc] 29)).cell (p := ⟨w1.heap.size, 0, none⟩) LXW.out).trans KXW.out
  go_wp2_with fail
  obtain ⟨xG, hwx⟩ : ∃ x, x = w2.alloc (.cells #[.slice ga N gc] 29) := ⟨_, rfl⟩
  rw [← hwx]
  have BB := Lib.hid (show Below w2.heap.size w2 xG by rw [hwx]; exact below_alloc _ _)
  have kx := Lib.hid (show xG.cell? ⟨w2.heap.size, 0, none⟩ = some (.slice ga N gc) by rw [hwx]; exact cell_box _ _ _)
  have lx := Lib.hid (show w2.heap.size < xG.heap.size by rw [hwx]; simp)
  clear hwx
  have TxG := Lib.hid (Tw2.out.trans ((BB.out).mono Tw2.out.size))
  have UxG := Lib.hid (Uw2.out.trans ((BB.out).mono Uw2.out.size))
  have KXW := Lib.hid (((BB.out).cell (p := ⟨w1.heap.size, 0, none⟩) LXW.out).trans KXW.out)
  have LXW := Lib.hid (Nat.lt_of_lt_of_le LXW.out (BB.out).size)
  have GR := Lib.hid (GR.out.below (BB.out) (Nat.le_refl _))
  have KXG := kx
  have LXG := lx
  clear kx lx BB
  clear eXW
  refine (eqRing_f _ _ _ _ _ _ _ _ _ GR.out.rd (SR.out.below UxG.out (Nat.le_refl _)) (by omega) (fun i hi => Nat.le_trans (HMM.out i hi) (by omega)) (fun i hi j hj => Nat.le_trans (HLL.out i hi j hj) (by omega))).mono ?_
  rintro e w3 ⟨rfl, b⟩
  have BB := Lib.hid b
  clear b
  have Tw3 := Lib.hid (TxG.out.trans ((BB.out).mono TxG.out.size))
  have Uw3 := Lib.hid (UxG.out.trans ((BB.out).mono UxG.out.size))
  have KXW := Lib.hid (((BB.out).cell (p := ⟨w1.heap.size, 0, none⟩) LXW.out).trans KXW.out)
  have LXW := Lib.hid (Nat.lt_of_lt_of_le LXW.out (BB.out).size)
  have KXG := Lib.hid (((BB.out).cell (p := ⟨w2.heap.size, 0, none⟩) LXG.out).trans KXG.out)
  have LXG := Lib.hid (Nat.lt_of_lt_of_le LXG.out (BB.out).size)
  have GR := Lib.hid (GR.out.below (BB.out) (Nat.le_refl _))
  clear BB
  have eXG := KXG.out
  go_wp2_with fail
  clear eXG
  have MG := Lib.hid (show Calls Try.prog 14 #[.agg #[.slice ga N gc], .int .i64 1] w3 fun e w' => e = .returned (.int .i64 (1 + (pn : Int))) ∧ OwnT w' xW.heap.size w2.heap.size ga N MM LL (fun i j k => (1 : Int) + (sum3 MM LL i : Nat) + (pre (LL i) j : Nat) + k) ∧ ∃ o, Only (fun k => xW.heap.size ≤ k ∧ k < w2.heap.size) (w3.alloc o) w' from by rw [PN.out]; exact markRing_own _ _ _ _ _ _ _ _ _ _ GR.out (by omega) (fun i hi => Nat.le_trans (HMM.out i hi) (by omega)) (by rw [← PN.out]; omega) (by omega) (by omega))
  refine MG.out.mono ?_
  rintro e w4 ⟨rfl, q, oo, ho⟩
  obtain ⟨w4m, hwm⟩ : ∃ x, x = w3.alloc oo := ⟨_, rfl⟩
  rw [← hwm] at ho
  have BB := Lib.hid (show Below w3.heap.size w3 w4m by rw [hwm]; exact below_alloc _ _)
  clear hwm
  have Tw4m := Lib.hid (Tw3.out.trans ((BB.out).mono Tw3.out.size))
  have Uw4m := Lib.hid (Uw3.out.trans ((BB.out).mono Uw3.out.size))
  have KXW := Lib.hid (((BB.out).cell (p := ⟨w1.heap.size, 0, none⟩) LXW.out).trans KXW.out)
  have LXW := Lib.hid (Nat.lt_of_lt_of_le LXW.out (BB.out).size)
  have KXG := Lib.hid (((BB.out).cell (p := ⟨w2.heap.size, 0, none⟩) LXG.out).trans KXG.out)
  have LXG := Lib.hid (Nat.lt_of_lt_of_le LXG.out (BB.out).size)
  clear BB
  have GM := Lib.hid q
  have OO := Lib.hid ho
  clear q ho GR MG
  have BO := Lib.hid (OO.out.below (B := xW.heap.size) (fun k hk => by have z0_ := SZxW.out; have z1_ := LYW.out; have z2_ := SZw2.out; have := hk.1; omega))
  have Tw4 := Lib.hid (Tw4m.out.trans (BO.out.mono TxW.out.size))
  have Uw4 := Lib.hid (Uw4m.out.trans (BO.out.mono UxW.out.size))
  clear BO
  have KXW := Lib.hid ((OO.out.cell (p := ⟨w1.heap.size, 0, none⟩) (fun hk => by have z0_ := SZxW.out; have z1_ := LYW.out; have z2_ := SZw2.out; have h1 := hk.1; have h2 := hk.2; (try simp only at h1 h2); omega)).trans KXW.out)
  have LXW := Lib.hid (show w1.heap.size < w4.heap.size by rw [OO.out.size]; exact LXW.out)
  have KXG := Lib.hid ((OO.out.cell (p := ⟨w2.heap.size, 0, none⟩) (fun hk => by have z0_ := SZxW.out; have z1_ := LYW.out; have z2_ := SZw2.out; have h1 := hk.1; have h2 := hk.2; (try simp only at h1 h2); omega)).trans KXG.out)
  have LXG := Lib.hid (show w2.heap.size < w4.heap.size by rw [OO.out.size]; exact LXG.out)
  clear OO
  have eXG := KXG.out
  go_wp2_with fail
  clear eXG
  have HG := Lib.hid (show Calls Try.prog 21 #[.agg #[.slice ga N gc], .int .i64 1] w4 fun e w' => e = .returned (.int .i64 (1 + (pn : Int))) ∧ Below w4.heap.size w4 w' from by rw [PN.out]; exact heldRing_f _ _ _ _ _ _ _ GM.out.rd (by omega) (fun i hi => Nat.le_trans (HMM.out i hi) (by omega)) (by rw [← PN.out]; omega) (by omega) (by omega))
  refine HG.out.mono ?_
  rintro e w5 ⟨rfl, b⟩
  have BB := Lib.hid b
  clear b HG
  have Tw5 := Lib.hid (Tw4.out.trans ((BB.out).mono Tw4.out.size))
  have Uw5 := Lib.hid (Uw4.out.trans ((BB.out).mono Uw4.out.size))
  have KXW := Lib.hid (((BB.out).cell (p := ⟨w1.heap.size, 0, none⟩) LXW.out).trans KXW.out)
  have LXW := Lib.hid (Nat.lt_of_lt_of_le LXW.out (BB.out).size)
  have KXG := Lib.hid (((BB.out).cell (p := ⟨w2.heap.size, 0, none⟩) LXG.out).trans KXG.out)
  have LXG := Lib.hid (Nat.lt_of_lt_of_le LXG.out (BB.out).size)
  have GM := Lib.hid (GM.out.below (BB.out) (Nat.le_refl _))
  clear BB
  go_wp2_with fail
  refine (HI.out  _ ).mono ?_
  rintro e w6 ⟨ha, hc, rfl, q, b⟩
  have HR := Lib.hid q.rd
  have BB := Lib.hid b
  clear q b
  have Tw6 := Lib.hid (Tw5.out.trans ((BB.out).mono Tw5.out.size))
  have Uw6 := Lib.hid (Uw5.out.trans ((BB.out).mono Uw5.out.size))
  have KXW := Lib.hid (((BB.out).cell (p := ⟨w1.heap.size, 0, none⟩) LXW.out).trans KXW.out)
  have LXW := Lib.hid (Nat.lt_of_lt_of_le LXW.out (BB.out).size)
  have KXG := Lib.hid (((BB.out).cell (p := ⟨w2.heap.size, 0, none⟩) LXG.out).trans KXG.out)
  have LXG := Lib.hid (Nat.lt_of_lt_of_le LXG.out (BB.out).size)
  have GM := Lib.hid (GM.out.below (BB.out) (Nat.le_refl _))
  clear BB
  have eXW := ((below_alloc w6 (.cells #[.slice ha N hc] 29)).cell (p := ⟨w1.heap.size, 0, none⟩) LXW.out).trans KXW.out
  have eXG := ((below_alloc w6 (.cells #[.slice ha N hc] 29)).cell (p := ⟨w2.heap.size, 0, none⟩) LXG.out).trans KXG.out
  go_wp2_with fail
  obtain ⟨xH, hwx⟩ : ∃ x, x = w6.alloc (.cells #[.slice ha N hc] 29) := ⟨_, rfl⟩
  rw [← hwx]
  have BB := Lib.hid (show Below w6.heap.size w6 xH by rw [hwx]; exact below_alloc _ _)
  have kx := Lib.hid (show xH.cell? ⟨w6.heap.size, 0, none⟩ = some (.slice ha N hc) by rw [hwx]; exact cell_box _ _ _)
  have lx := Lib.hid (show w6.heap.size < xH.heap.size by rw [hwx]; simp)
  clear hwx
  have TxH := Lib.hid (Tw6.out.trans ((BB.out).mono Tw6.out.size))
  have UxH := Lib.hid (Uw6.out.trans ((BB.out).mono Uw6.out.size))
  have KXW := Lib.hid (((BB.out).cell (p := ⟨w1.heap.size, 0, none⟩) LXW.out).trans KXW.out)
  have LXW := Lib.hid (Nat.lt_of_lt_of_le LXW.out (BB.out).size)
  have KXG := Lib.hid (((BB.out).cell (p := ⟨w2.heap.size, 0, none⟩) LXG.out).trans KXG.out)
  have LXG := Lib.hid (Nat.lt_of_lt_of_le LXG.out (BB.out).size)
  have GM := Lib.hid (GM.out.below (BB.out) (Nat.le_refl _))
  have HR := Lib.hid (HR.out.below (BB.out) (Nat.le_refl _))
  have KXH := kx
  have LXH := lx
  clear kx lx BB
  clear eXW eXG
  refine (eqRing_f _ _ _ _ _ _ _ _ _ HR.out (SR.out.below UxH.out (Nat.le_refl _)) (by omega) (fun i hi => Nat.le_trans (HMM.out i hi) (by omega)) (fun i hi j hj => Nat.le_trans (HLL.out i hi j hj) (by omega))).mono ?_
  rintro e w7 ⟨rfl, b⟩
  have BB := Lib.hid b
  clear b
  have Tw7 := Lib.hid (TxH.out.trans ((BB.out).mono TxH.out.size))
  have Uw7 := Lib.hid (UxH.out.trans ((BB.out).mono UxH.out.size))
  have KXW := Lib.hid (((BB.out).cell (p := ⟨w1.heap.size, 0, none⟩) LXW.out).trans KXW.out)
  have LXW := Lib.hid (Nat.lt_of_lt_of_le LXW.out (BB.out).size)
  have KXG := Lib.hid (((BB.out).cell (p := ⟨w2.heap.size, 0, none⟩) LXG.out).trans KXG.out)
  have LXG := Lib.hid (Nat.lt_of_lt_of_le LXG.out (BB.out).size)
  have KXH := Lib.hid (((BB.out).cell (p := ⟨w6.heap.size, 0, none⟩) LXH.out).trans KXH.out)
  have LXH := Lib.hid (Nat.lt_of_lt_of_le LXH.out (BB.out).size)
  have GM := Lib.hid (GM.out.below (BB.out) (Nat.le_refl _))
  have HR := Lib.hid (HR.out.below (BB.out) (Nat.le_refl _))
  clear BB
  have eXG := KXG.out
  go_wp2_with fail
  clear eXG
  have HG := Lib.hid (show Calls Try.prog 21 #[.agg #[.slice ga N gc], .int .i64 1] w7 fun e w' => e = .returned (.int .i64 (1 + (pn : Int))) ∧ Below w7.heap.size w7 w' from by rw [PN.out]; exact heldRing_f _ _ _ _ _ _ _ GM.out.rd (by omega) (fun i hi => Nat.le_trans (HMM.out i hi) (by omega)) (by rw [← PN.out]; omega) (by omega) (by omega))
  refine HG.out.mono ?_
  rintro e w8 ⟨rfl, b⟩
  have BB := Lib.hid b
  clear b HG
  have Tw8 := Lib.hid (Tw7.out.trans ((BB.out).mono Tw7.out.size))
  have Uw8 := Lib.hid (Uw7.out.trans ((BB.out).mono Uw7.out.size))
  have KXW := Lib.hid (((BB.out).cell (p := ⟨w1.heap.size, 0, none⟩) LXW.out).trans KXW.out)
  have LXW := Lib.hid (Nat.lt_of_lt_of_le LXW.out (BB.out).size)
  have KXG := Lib.hid (((BB.out).cell (p := ⟨w2.heap.size, 0, none⟩) LXG.out).trans KXG.out)
  have LXG := Lib.hid (Nat.lt_of_lt_of_le LXG.out (BB.out).size)
  have KXH := Lib.hid (((BB.out).cell (p := ⟨w6.heap.size, 0, none⟩) LXH.out).trans KXH.out)
  have LXH := Lib.hid (Nat.lt_of_lt_of_le LXH.out (BB.out).size)
  have GM := Lib.hid (GM.out.below (BB.out) (Nat.le_refl _))
  clear BB
  go_wp2_with fail
  go_ret
  exact ⟨rfl, Tw8.out⟩

set_option maxRecDepth 100000 in
theorem lifted (os : Os) (started : os.Started) (H : Type) (enc : TypeId × Value → H) :
    ReturnsInHanded {} Try.checked os 5 .any (Rows.fnExactDihedralRingSpec.pre6 enc Try.prog Try.f5 Rows.fnExactDihedralRingRow.domain false) (Rows.fnExactDihedralRingSpec.post enc Try.prog Try.f5 false true false false) := by
  refine returnsInHanded_of_change (C := Try.checked) own started (by kernel_rfl) Try.func5
    (ChangeSpec.witness6 (enc := enc) (C := Try.checked) false ⟨#[], #[.int .i64 0], []⟩ 8 (by kernel_rfl) (by kernel_rfl) (by kernel_rfl) (by kernel_rfl)) ?_
  intro W base args ds gs before hval0 hW hcnd _
  have hval : ∀ (j : Nat) t v, Try.f5.params[j]? = some t → args[j]? = some v → Value.okWide Try.prog W .any base t v := hval0
  have hW' := hW
  obtain ⟨p, q, hA0, hV, rfl, hfz, hnd⟩ := hW
  have hA : DataW.TrodAll enc Try.prog W 0 (fun _ => true) true Try.f5.params.toList args.toList ds p := hA0
  rw [Try.params5] at hA hval
  obtain ⟨v0, vs0, d0, ds0, p0, q0, hargs, rfl, rfl, h0, t0⟩ := trodAll_cons hA
  obtain ⟨rfl, rfl, rfl⟩ := trodAll_nil t0
  obtain rfl : args = #[v0] := by cases args; simp_all
  obtain ⟨rfl, rfl⟩ := trodVars_none hV
  obtain ⟨k0, rfl, rfl, rfl, w0⟩ := open_int Try.underlying2 (hval 0 2 v0 rfl rfl) h0
  clear hA0 hval0
  refine (walk W k0 w0).mono fun e W' ⟨he, hg⟩ => ?_
  subst he
  refine ⟨_, rfl, _, _, _, [], ([] ++ []), [], hW', ?_, ?_, rfl, hg.frame _, fun h => by cases h⟩
  · exact (trodAll_cons_mk (shut_bool Try.underlying4 _) trodAll_mk0)
  · exact (trodAll_cons_mk (shut_int Try.underlying2 w0) trodAll_mk0)

theorem over : Rows.fnExactDihedralRingRow.holds Try.pinned (OpenSpec.ofChange Rows.fnExactDihedralRingSpec) :=
  OpenClaim.holds_of_wide 5 Try.f5 rfl rfl rfl rfl rfl rfl rfl ⟨rfl, rfl, rfl, rfl, rfl⟩ rfl rfl rfl rfl rfl (by kernel_rfl) Try.func5 (by kernel_rfl)
    (of_decide_eq_true (by kernel_rfl)) (by unfold Func.isWrapper; first | (rw [if_pos (by decide +kernel)]; kernel_rfl) | (rw [if_neg (by decide +kernel)]; exact ⟨rfl, rfl⟩))
    (fun os started H enc _ => lifted os started H enc)

theorem proved : Rows.FnExactDihedralRingSaid :=
  over
end Go.Proofs.Ytmdmojklagmmiaa.fnExactDihedralRing
