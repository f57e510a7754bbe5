/- 'FnExactEigenspaceOf': for all arguments the law answers true. No further condition. -/
import Derived.Test.YtaffdoihmalilaaRows
import Derived.Test.YtaffdoihmalilaaEig
import Derived.OpenShut
import Derived.Carry
namespace Go.Proofs.Ytaffdoihmalilaa.fnExactEigenspaceOf
open Go.ChangeShapes Go.WideShapes Go.ChangeAt Go.RowKit
set_option linter.unusedVariables false

theorem own : ownKnob Try.prog.godebug = none := by kernel_rfl
theorem laidOut : laidOutB Try.prog = true := by kernel_rfl
set_option maxHeartbeats 4000000 in
set_option maxRecDepth 100000 in
theorem walk (w : World) (a0 : Option Addr) (n0 c0 : Nat) (L0 : Nat → Nat) (f0 : Nat → Nat → Int) (hm0 : n0 ≤ maxLen) (hx0 : ∀ i, i < n0 → L0 i ≤ maxLen) (r0 : RdM w a0 n0 L0 f0) (k1 : Int) (w1 : (Lit.int .i64 k1).wf = true) :
    Calls Try.prog 7 #[.slice a0 n0 c0, .int .i64 k1] w fun e w' => e = .returned (.bool true) ∧ Below w.heap.size w w' := by
  have R0 := Lib.hid r0
  clear r0
  have X0 := Lib.hid hx0
  clear hx0
  have W1 := Lib.hid w1
  clear w1
  obtain ⟨v0, hv0⟩ : ∃ v, v = szLeft n0 L0 (1048576 : Int) := ⟨_, rfl⟩
  have S0 : Hid (Calls Try.prog 15 #[.slice a0 n0 c0, .int .i64 1048576] w fun e w' => e = .returned (.int .i64 v0) ∧ w = w') := by
    rw [hv0]; exact szInt64SS_f a0 n0 c0 L0 f0 _ w R0.out hm0 X0.out (by omega) (by omega)
  have V0 := Lib.hid hv0
  clear hv0
  by_cases hs0 : v0 < 0
  · have hds0 : decide (v0 < 0) = true := by simp; omega
    go_enter Try.func7, Try.ntmps7
    go_wp2_with fail
    refine (S0.out).mono ?_
    rintro e w' ⟨rfl, rfl⟩
    go_wp2_with fail
    go_ret
    exact ⟨rfl, Below.refl _ _⟩
  have hds0 : decide (v0 < 0) = false := by simp; omega
  have hz0 := szLeft_pos (n := n0) (L := L0) (l := (1048576 : Int)) (by rw [← V0.out]; exact hs0)
  rw [← V0.out] at hz0
  obtain ⟨hza0, hzb0⟩ := hz0
  have B0 := Lib.hid (show n0 ≤ 1048576 ∧ pre L0 n0 ≤ 1048576 from ⟨by omega, by omega⟩)
  have hb0 : 0 ≤ v0 ∧ v0 ≤ 1048576 := ⟨by omega, by omega⟩
  have Q0 := Lib.hid (show ∀ i, i < n0 → L0 i ≤ 1048576 from fun i hi => Nat.le_trans (pre_at L0 hi) B0.out.2)
  have pair : ∃ (N : Nat) (LL : Nat → Nat) (FF : Nat → Nat → Int) (cd : Int), N ≤ 64 ∧ (∀ i, i < N → LL i ≤ 64) ∧ (∀ (x0 : Option Addr) (y0 : Nat) (u : World), RdM u x0 n0 L0 f0 → Calls Try.prog 31 #[.slice x0 n0 y0, .int .i64 k1] u (TabRes u N LL FF cd)) ∧ (∀ (x0 : Option Addr) (y0 : Nat) (u : World), RdM u x0 n0 L0 f0 → Calls Try.prog 32 #[.slice x0 n0 y0, .int .i64 k1] u (TabRes u N LL FF cd)) := by
    refine ⟨_, _, _, _, ?b1, ?b2, fun x0 y0 u z0 => specEig_f x0 n0 y0 L0 f0 k1 u z0 B0.out.1 Q0.out W1.out, fun x0 y0 u z0 => implEig_f x0 n0 y0 L0 f0 k1 u z0 B0.out.1 Q0.out W1.out⟩
    case b1 => exact implEig_f_rows n0 L0 f0 k1
    case b2 => exact implEig_f_cols n0 L0 f0 k1
  obtain ⟨N, LL, FF, cd, hN, hLL, hS, hI⟩ := pair
  have HS := Lib.hid hS
  have HI := Lib.hid hI
  clear hS hI
  have hcd : (cd != cd) = false := by simp
  have hpr := pre_le hLL
  have HLL := Lib.hid hLL
  clear hLL
  obtain ⟨pn, hpn⟩ : ∃ pn, pn = pre LL N := ⟨_, rfl⟩
  rw [← hpn] at hpr
  have hpr' : pn ≤ 4096 := by omega
  have PN := Lib.hid hpn
  clear hpn hpr
  have hq0 : decide ((1 : Int) + (pn : Int) < 0) = false := by simp; omega
  have hq1 : ((1 : Int) + (pn : Int) != (1 : Int) + (pn : Int)) = false := by simp
  obtain ⟨p0, hp0⟩ : ∃ p, p = pre L0 n0 := ⟨_, rfl⟩
  have hpb0 : p0 ≤ 1048576 := by rw [hp0]; exact B0.out.2
  have P0 := Lib.hid hp0
  clear hp0
  have hk0 : decide ((1 : Int) + (p0 : Int) < 0) = false := by simp; omega
  go_enter Try.func7, Try.ntmps7
  go_wp2_with fail
  refine (S0.out).mono ?_
  rintro e w' ⟨rfl, rfl⟩
  go_wp2_with fail
  refine (toInt64SS_f _ _ _ L0 f0 _ (R0.out.below (Below.refl _ _) (Nat.le_refl _)) B0.out.1 Q0.out).mono ?_
  rintro e w1 ⟨rfl, q, b, sz⟩
  have C0 := Lib.hid q
  have ZC0 := Lib.hid sz
  have BB := Lib.hid b
  clear q b sz
  have Tw1 := Lib.hid (show Below w.heap.size w w1 from BB.out)
  clear BB
  go_wp2_with fail
  refine (HS.out _ _ _ (C0.out.rd)).mono ?_
  rintro e w2 ⟨sa, sc, rfl, q, b⟩
  have SR := Lib.hid q.rd
  clear q
  have BB := Lib.hid b
  clear b
  have Tw2 := Lib.hid (Tw1.out.trans ((BB.out).mono Tw1.out.size))
  clear BB
  have Uw2 := Lib.hid (Below.refl w2.heap.size w2)
  clear C0
  go_wp2_with fail
  refine (toInt64SS_f _ _ _ L0 f0 _ (R0.out.below Tw2.out (Nat.le_refl _)) B0.out.1 Q0.out).mono ?_
  rintro e w3 ⟨rfl, q, b, sz⟩
  have D0 := Lib.hid q
  have ZD0 := Lib.hid sz
  have BB := Lib.hid b
  clear q b sz
  have Tw3 := Lib.hid (Tw2.out.trans ((BB.out).mono Tw2.out.size))
  have Uw3 := Lib.hid (Uw2.out.trans ((BB.out).mono Uw2.out.size))
  clear BB
  go_wp2_with fail
  refine (HI.out _ _ _ (D0.out.rd)).mono ?_
  rintro e w4 ⟨ga, gc, rfl, q, b⟩
  have LE0 := Lib.hid (show w3.heap.size ≤ w3.heap.size by  omega)
  have GR := Lib.hid q
  clear q
  have BB := Lib.hid b
  clear b
  have Tw4 := Lib.hid (Tw3.out.trans ((BB.out).mono Tw3.out.size))
  have Uw4 := Lib.hid (Uw3.out.trans ((BB.out).mono Uw3.out.size))
  have D0 := Lib.hid (D0.out.below (BB.out) (Nat.le_refl _))
  clear BB
  go_wp2_with fail
  refine (eqInt64SS_f _ _ _ _ _ _ _ _ GR.out.rd (SR.out.below Uw4.out (Nat.le_refl _)) (by omega) (fun i hi => Nat.le_trans (HLL.out i hi) (by omega))).mono ?_
  rintro e w5 ⟨rfl, b⟩
  have BB := Lib.hid b
  clear b
  have Tw5 := Lib.hid (Tw4.out.trans ((BB.out).mono Tw4.out.size))
  have Uw5 := Lib.hid (Uw4.out.trans ((BB.out).mono Uw4.out.size))
  have D0 := Lib.hid (D0.out.below (BB.out) (Nat.le_refl _))
  have GR := Lib.hid (GR.out.below (BB.out) (Nat.le_refl _))
  clear BB
  go_wp2_with fail
  refine (toInt64SS_f _ _ _ L0 f0 _ (R0.out.below Tw5.out (Nat.le_refl _)) B0.out.1 Q0.out).mono ?_
  rintro e w6 ⟨rfl, q, b, sz⟩
  have E0 := Lib.hid q
  have ZE0 := Lib.hid sz
  have BB := Lib.hid b
  clear q b sz
  have Tw6 := Lib.hid (Tw5.out.trans ((BB.out).mono Tw5.out.size))
  have Uw6 := Lib.hid (Uw5.out.trans ((BB.out).mono Uw5.out.size))
  have D0 := Lib.hid (D0.out.below (BB.out) (Nat.le_refl _))
  have GR := Lib.hid (GR.out.below (BB.out) (Nat.le_refl _))
  clear BB
  go_wp2_with fail
  refine (eqInt64SS_f _ _ _ _ _ _ _ _ D0.out.rd E0.out.rd (Nat.le_trans B0.out.1 (by omega)) (fun i hi => Nat.le_trans (Q0.out i hi) (by omega))).mono ?_
  rintro e w7 ⟨rfl, b⟩
  have BB := Lib.hid b
  clear b
  have Tw7 := Lib.hid (Tw6.out.trans ((BB.out).mono Tw6.out.size))
  have Uw7 := Lib.hid (Uw6.out.trans ((BB.out).mono Uw6.out.size))
  have D0 := Lib.hid (D0.out.below (BB.out) (Nat.le_refl _))
  have GR := Lib.hid (GR.out.below (BB.out) (Nat.le_refl _))
  have E0 := Lib.hid (E0.out.below (BB.out) (Nat.le_refl _))
  clear BB
  clear E0 ZE0
  go_wp2_with fail
  have MK0 := Lib.hid (show Calls Try.prog 22 #[.slice (some ⟨w2.heap.size, 0, none⟩) n0 n0, .int .i64 ((1 : Int))] w7 fun e w' => e = .returned (.int .i64 (((1 : Int)) + (p0 : Int))) ∧ Only (fun k => ∃ i, i < n0 ∧ k = w2.heap.size + 1 + i) w7 w' from by rw [P0.out]; exact (markInt64SS_f _ _ (by decide) _ _ _ _ _ _ _ _ _ w7 D0.out (Nat.le_trans B0.out.1 (by omega)) (Nat.le_trans B0.out.2 (by omega)) (by omega) (by omega)).mono fun _ _ h => ⟨h.1, h.2.2⟩)
  refine MK0.out.mono ?_
  rintro e w8 ⟨rfl, ho⟩
  have OO := Lib.hid ho
  clear ho
  have BO := Lib.hid (OO.out.below (B := w2.heap.size) (fun k hk => by obtain ⟨i, hi, rfl⟩ := hk; have := Uw2.out.size; omega))
  have Tw8 := Lib.hid (Tw7.out.trans (BO.out.mono Tw2.out.size))
  have Uw8 := Lib.hid (Uw7.out.trans BO.out)
  clear BO
  have GR := Lib.hid (GR.out.only OO.out (fun k hk => by have z1 := ZD0.out; have z2 : w3.heap.size ≤ w3.heap.size := LE0.out; obtain ⟨i, hi, rfl⟩ := hk; omega))
  clear OO D0 MK0
  go_wp2_with fail
  refine (eqInt64SS_f _ _ _ _ _ _ _ _ GR.out.rd (SR.out.below Uw8.out (Nat.le_refl _)) (by omega) (fun i hi => Nat.le_trans (HLL.out i hi) (by omega))).mono ?_
  rintro e w9 ⟨rfl, b⟩
  have BB := Lib.hid b
  clear b
  have Tw9 := Lib.hid (Tw8.out.trans ((BB.out).mono Tw8.out.size))
  have Uw9 := Lib.hid (Uw8.out.trans ((BB.out).mono Uw8.out.size))
  have GR := Lib.hid (GR.out.below (BB.out) (Nat.le_refl _))
  clear BB
  go_wp2_with fail
  have MG := Lib.hid (show Calls Try.prog 22 #[.slice ga N gc, .int .i64 1] w9 fun e w' => e = .returned (.int .i64 (1 + (pn : Int))) ∧ OwnM w' w3.heap.size ga N LL (fun i j => (1 : Int) + (pre LL i : Nat) + j) ∧ Only (fun k => w3.heap.size ≤ k ∧ k < w9.heap.size) w9 w' from by rw [PN.out]; exact markInt64SS_own _ _ _ _ _ _ _ _ GR.out (by omega) (by rw [← PN.out]; omega) (by omega) (by omega))
  refine MG.out.mono ?_
  rintro e w10 ⟨rfl, q, ho⟩
  have GM := Lib.hid q
  have OO := Lib.hid ho
  clear q ho GR MG
  have BO := Lib.hid (OO.out.below (B := w3.heap.size) (fun k hk => hk.1))
  have Tw10 := Lib.hid (Tw9.out.trans (BO.out.mono Tw3.out.size))
  have Uw10 := Lib.hid (Uw9.out.trans (BO.out.mono Uw3.out.size))
  clear BO OO
  go_wp2_with fail
  have HG := Lib.hid (show Calls Try.prog 23 #[.slice ga N gc, .int .i64 1] w10 fun e w' => e = .returned (.int .i64 (1 + (pn : Int))) ∧ w10 = w' from by rw [PN.out]; exact heldInt64SS_f _ _ _ _ _ _ GM.out.rd (by omega) (by rw [← PN.out]; omega) (by omega) (by omega))
  refine HG.out.mono ?_
  rintro e w' ⟨rfl, rfl⟩
  clear HG
  go_wp2_with fail
  refine (toInt64SS_f _ _ _ L0 f0 _ (R0.out.below Tw10.out (Nat.le_refl _)) B0.out.1 Q0.out).mono ?_
  rintro e w11 ⟨rfl, q, b, sz⟩
  have H0 := Lib.hid q
  have ZH0 := Lib.hid sz
  have BB := Lib.hid b
  clear q b sz
  have Tw11 := Lib.hid (Tw10.out.trans ((BB.out).mono Tw10.out.size))
  have Uw11 := Lib.hid (Uw10.out.trans ((BB.out).mono Uw10.out.size))
  have GM := Lib.hid (GM.out.below (BB.out) (Nat.le_refl _))
  clear BB
  go_wp2_with fail
  refine (HI.out _ _ _ (H0.out.rd)).mono ?_
  rintro e w12 ⟨ha, hc, rfl, q, b⟩
  have HR := Lib.hid q.rd
  have BB := Lib.hid b
  clear q b
  have Tw12 := Lib.hid (Tw11.out.trans ((BB.out).mono Tw11.out.size))
  have Uw12 := Lib.hid (Uw11.out.trans ((BB.out).mono Uw11.out.size))
  have GM := Lib.hid (GM.out.below (BB.out) (Nat.le_refl _))
  clear BB
  go_wp2_with fail
  refine (eqInt64SS_f _ _ _ _ _ _ _ _ HR.out (SR.out.below Uw12.out (Nat.le_refl _)) (by omega) (fun i hi => Nat.le_trans (HLL.out i hi) (by omega))).mono ?_
  rintro e w13 ⟨rfl, b⟩
  have BB := Lib.hid b
  clear b
  have Tw13 := Lib.hid (Tw12.out.trans ((BB.out).mono Tw12.out.size))
  have Uw13 := Lib.hid (Uw12.out.trans ((BB.out).mono Uw12.out.size))
  have GM := Lib.hid (GM.out.below (BB.out) (Nat.le_refl _))
  clear BB
  go_wp2_with fail
  have HG := Lib.hid (show Calls Try.prog 23 #[.slice ga N gc, .int .i64 1] w13 fun e w' => e = .returned (.int .i64 (1 + (pn : Int))) ∧ w13 = w' from by rw [PN.out]; exact heldInt64SS_f _ _ _ _ _ _ GM.out.rd (by omega) (by rw [← PN.out]; omega) (by omega) (by omega))
  refine HG.out.mono ?_
  rintro e w' ⟨rfl, rfl⟩
  clear HG
  go_wp2_with fail
  go_ret
  exact ⟨rfl, Tw13.out⟩

set_option maxRecDepth 100000 in
theorem lifted (os : Os) (started : os.Started) (H : Type) (enc : TypeId × Value → H) :
    ReturnsInHanded {} Try.checked os 7 .any (Rows.fnExactEigenspaceOfSpec.pre6 enc Try.prog Try.f7 Rows.fnExactEigenspaceOfRow.domain false) (Rows.fnExactEigenspaceOfSpec.post enc Try.prog Try.f7 false true false false) := by
  refine returnsInHanded_of_change (C := Try.checked) own started (by kernel_rfl) Try.func7
    (ChangeSpec.witness6 (enc := enc) (C := Try.checked) false ⟨#[], #[.slice none 0 0, .int .i64 0], []⟩ 8 (by kernel_rfl) (by kernel_rfl) (by kernel_rfl) (by kernel_rfl)) ?_
  intro W base args ds gs before hval0 hW hcnd _
  have hval : ∀ (j : Nat) t v, Try.f7.params[j]? = some t → args[j]? = some v → Value.okWide Try.prog W .any base t v := hval0
  have hW' := hW
  obtain ⟨p, q, hA0, hV, rfl, hfz, hnd⟩ := hW
  have hA : DataW.TrodAll enc Try.prog W 0 (fun _ => true) true Try.f7.params.toList args.toList ds p := hA0
  rw [Try.params7] at hA hval
  obtain ⟨v0, vs0, d0, ds0, p0, q0, hargs, rfl, rfl, h0, t0⟩ := trodAll_cons hA
  obtain ⟨v1, vs1, d1, ds1, p1, q1, rfl, rfl, rfl, h1, t1⟩ := trodAll_cons t0
  obtain ⟨rfl, rfl, rfl⟩ := trodAll_nil t1
  obtain rfl : args = #[v0, v1] := by cases args; simp_all
  obtain ⟨rfl, rfl⟩ := trodVars_none hV
  obtain ⟨a0, n0, c0, rfl⟩ := okWide_slice Try.underlying22 (hval 0 22 v0 rfl rfl)
  obtain ⟨hm0, L0, f0, hx0, r0⟩ := RdM_of_trod h0
  obtain ⟨k1, rfl, rfl, rfl, w1⟩ := open_int Try.underlying2 (hval 1 2 v1 rfl rfl) h1
  clear hA0 hval0
  refine (walk W a0 n0 c0 L0 f0 hm0 hx0 r0 k1 w1).mono fun e W' ⟨he, hg⟩ => ?_
  subst he
  refine ⟨_, rfl, _, _, _, [], (p0 ++ ([] ++ [])), [], hW', ?_, ?_, rfl, hg.frame _, fun h => by cases h⟩
  · exact (trodAll_cons_mk (shut_bool Try.underlying4 _) trodAll_mk0)
  · exact (trodAll_cons_mk (Below.trod laidOut (by kernel_rfl) (of_decide_eq_true (by kernel_rfl)) h0 hg (fun x hx => hW'.lt x (by simp [hx]))) (trodAll_cons_mk (shut_int Try.underlying2 w1) trodAll_mk0))

theorem over : Rows.fnExactEigenspaceOfRow.holds Try.pinned (OpenSpec.ofChange Rows.fnExactEigenspaceOfSpec) :=
  OpenClaim.holds_of_wide 7 Try.f7 rfl rfl rfl rfl rfl rfl rfl ⟨rfl, rfl, rfl, rfl, rfl⟩ rfl rfl rfl rfl rfl (by kernel_rfl) Try.func7 (by kernel_rfl)
    (of_decide_eq_true (by kernel_rfl)) (by unfold Func.isWrapper; first | (rw [if_pos (by decide +kernel)]; kernel_rfl) | (rw [if_neg (by decide +kernel)]; exact ⟨rfl, rfl⟩))
    (fun os started H enc _ => lifted os started H enc)

theorem proved : Rows.FnExactEigenspaceOfSaid :=
  over
end Go.Proofs.Ytaffdoihmalilaa.fnExactEigenspaceOf
