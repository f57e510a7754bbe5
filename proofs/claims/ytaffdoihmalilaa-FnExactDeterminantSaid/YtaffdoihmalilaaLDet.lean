/- 'FnExactDeterminant': for all arguments the law answers true. No further condition. -/
import Derived.Test.YtaffdoihmalilaaRows
import Derived.Test.YtaffdoihmalilaaDet
import Derived.Test.YtaffdoihmalilaaOwn
import Derived.OpenShut
import Derived.Carry
namespace Go.Proofs.Ytaffdoihmalilaa.fnExactDeterminant
open Go.ChangeShapes Go.WideShapes Go.ChangeAt Go.RowKit
set_option linter.unusedVariables false

theorem own : ownKnob Try.prog.godebug = none := by kernel_rfl
theorem laidOut : laidOutB Try.prog = true := by kernel_rfl
set_option maxHeartbeats 4000000 in
set_option maxRecDepth 100000 in
theorem walk (w : World) (a0 : Option Addr) (n0 c0 : Nat) (L0 : Nat → Nat) (f0 : Nat → Nat → Int) (hm0 : n0 ≤ maxLen) (hx0 : ∀ i, i < n0 → L0 i ≤ maxLen) (r0 : RdM w a0 n0 L0 f0) :
    Calls Try.prog 3 #[.slice a0 n0 c0] w fun e w' => e = .returned (.bool true) ∧ Below w.heap.size w w' := by
  have R0 := Lib.hid r0
  clear r0
  have X0 := Lib.hid hx0
  clear hx0
  obtain ⟨v0, hv0⟩ : ∃ v, v = szLeft n0 L0 (1048576 : Int) := ⟨_, rfl⟩
  have S0 : Hid (Calls Try.prog 15 #[.slice a0 n0 c0, .int .i64 1048576] w fun e w' => e = .returned (.int .i64 v0) ∧ w = w') := by
    rw [hv0]; exact szInt64SS_f a0 n0 c0 L0 f0 _ w R0.out hm0 X0.out (by omega) (by omega)
  have V0 := Lib.hid hv0
  clear hv0
  by_cases hs0 : v0 < 0
  · have hds0 : decide (v0 < 0) = true := by simp; omega
    go_enter Try.func3, Try.ntmps3
    go_wp2_with fail
    refine (S0.out).mono ?_
    rintro e w' ⟨rfl, rfl⟩
    go_wp2_with fail
    go_ret
    exact ⟨rfl, Below.refl _ _⟩
  have hds0 : decide (v0 < 0) = false := by simp; omega
  have hz0 := szLeft_pos (n := n0) (L := L0) (l := (1048576 : Int)) (by rw [← V0.out]; exact hs0)
  rw [← V0.out] at hz0
  obtain ⟨hza0, hzb0⟩ := hz0
  have B0 := Lib.hid (show n0 ≤ 1048576 ∧ pre L0 n0 ≤ 1048576 from ⟨by omega, by omega⟩)
  have hb0 : 0 ≤ v0 ∧ v0 ≤ 1048576 := ⟨by omega, by omega⟩
  have Q0 := Lib.hid (show ∀ i, i < n0 → L0 i ≤ 1048576 from fun i hi => Nat.le_trans (pre_at L0 hi) B0.out.2)
  have pair : ∃ (vv cd : Int), (∀ (x0 : Option Addr) (y0 : Nat) (u : World), RdM u x0 n0 L0 f0 → Calls Try.prog 16 #[.slice x0 n0 y0] u (IntRes u vv cd)) ∧ (∀ (x0 : Option Addr) (y0 : Nat) (u : World), RdM u x0 n0 L0 f0 → Calls Try.prog 18 #[.slice x0 n0 y0] u (IntRes u vv cd)) := by
    refine ⟨_, _, fun x0 y0 u z0 => specDet_f x0 n0 y0 L0 f0 u z0 B0.out.1 Q0.out, fun x0 y0 u z0 => implDet_f x0 n0 y0 L0 f0 u z0 B0.out.1 Q0.out⟩
  obtain ⟨vv, cd, hS, hI⟩ := pair
  have HS := Lib.hid hS
  have HI := Lib.hid hI
  clear hS hI
  have hcd : (cd != cd) = false := by simp
  have hvv : (vv != vv) = false := by simp
  go_enter Try.func3, Try.ntmps3
  go_wp2_with fail
  refine (S0.out).mono ?_
  rintro e w' ⟨rfl, rfl⟩
  go_wp2_with fail
  refine (toInt64SS_f _ _ _ L0 f0 _ (R0.out.below (Below.refl _ _) (Nat.le_refl _)) B0.out.1 Q0.out).mono ?_
  rintro e w1 ⟨rfl, q, b, sz⟩
  have C0 := Lib.hid q
  have ZC0 := Lib.hid sz
  have BB := Lib.hid b
  clear q b sz
  have Tw1 := Lib.hid (show Below w.heap.size w w1 from BB.out)
  clear BB
  go_wp2_with fail
  refine (HS.out _ _ _ (C0.out.rd)).mono ?_
  rintro e w2 ⟨rfl, b⟩
  have BB := Lib.hid b
  clear b
  have Tw2 := Lib.hid (Tw1.out.trans ((BB.out).mono Tw1.out.size))
  clear BB
  clear C0
  go_wp2_with fail
  refine (toInt64SS_f _ _ _ L0 f0 _ (R0.out.below Tw2.out (Nat.le_refl _)) B0.out.1 Q0.out).mono ?_
  rintro e w3 ⟨rfl, q, b, sz⟩
  have D0 := Lib.hid q
  have ZD0 := Lib.hid sz
  have BB := Lib.hid b
  clear q b sz
  have Tw3 := Lib.hid (Tw2.out.trans ((BB.out).mono Tw2.out.size))
  clear BB
  go_wp2_with fail
  refine (HI.out _ _ _ (D0.out.rd)).mono ?_
  rintro e w4 ⟨rfl, b⟩
  have BB := Lib.hid b
  clear b
  have Tw4 := Lib.hid (Tw3.out.trans ((BB.out).mono Tw3.out.size))
  have D0 := Lib.hid (D0.out.below (BB.out) (Nat.le_refl _))
  clear BB
  go_wp2_with fail
  refine (toInt64SS_f _ _ _ L0 f0 _ (R0.out.below Tw4.out (Nat.le_refl _)) B0.out.1 Q0.out).mono ?_
  rintro e w5 ⟨rfl, q, b, sz⟩
  have E0 := Lib.hid q
  have ZE0 := Lib.hid sz
  have BB := Lib.hid b
  clear q b sz
  have Tw5 := Lib.hid (Tw4.out.trans ((BB.out).mono Tw4.out.size))
  have D0 := Lib.hid (D0.out.below (BB.out) (Nat.le_refl _))
  clear BB
  go_wp2_with fail
  refine (eqInt64SS_f _ _ _ _ _ _ _ _ D0.out.rd E0.out.rd (Nat.le_trans B0.out.1 (by omega)) (fun i hi => Nat.le_trans (Q0.out i hi) (by omega))).mono ?_
  rintro e w6 ⟨rfl, b⟩
  have BB := Lib.hid b
  clear b
  have Tw6 := Lib.hid (Tw5.out.trans ((BB.out).mono Tw5.out.size))
  have D0 := Lib.hid (D0.out.below (BB.out) (Nat.le_refl _))
  have E0 := Lib.hid (E0.out.below (BB.out) (Nat.le_refl _))
  clear BB
  clear E0 ZE0
  go_wp2_with fail
  go_ret
  exact ⟨rfl, Tw6.out⟩

set_option maxRecDepth 100000 in
theorem lifted (os : Os) (started : os.Started) (H : Type) (enc : TypeId × Value → H) :
    ReturnsInHanded {} Try.checked os 3 .any (Rows.fnExactDeterminantSpec.pre6 enc Try.prog Try.f3 Rows.fnExactDeterminantRow.domain false) (Rows.fnExactDeterminantSpec.post enc Try.prog Try.f3 false true false false) := by
  refine returnsInHanded_of_change (C := Try.checked) own started (by kernel_rfl) Try.func3
    (ChangeSpec.witness6 (enc := enc) (C := Try.checked) false ⟨#[], #[.slice none 0 0], []⟩ 8 (by kernel_rfl) (by kernel_rfl) (by kernel_rfl) (by kernel_rfl)) ?_
  intro W base args ds gs before hval0 hW hcnd _
  have hval : ∀ (j : Nat) t v, Try.f3.params[j]? = some t → args[j]? = some v → Value.okWide Try.prog W .any base t v := hval0
  have hW' := hW
  obtain ⟨p, q, hA0, hV, rfl, hfz, hnd⟩ := hW
  have hA : DataW.TrodAll enc Try.prog W 0 (fun _ => true) true Try.f3.params.toList args.toList ds p := hA0
  rw [Try.params3] at hA hval
  obtain ⟨v0, vs0, d0, ds0, p0, q0, hargs, rfl, rfl, h0, t0⟩ := trodAll_cons hA
  obtain ⟨rfl, rfl, rfl⟩ := trodAll_nil t0
  obtain rfl : args = #[v0] := by cases args; simp_all
  obtain ⟨rfl, rfl⟩ := trodVars_none hV
  obtain ⟨a0, n0, c0, rfl⟩ := okWide_slice Try.underlying22 (hval 0 22 v0 rfl rfl)
  obtain ⟨hm0, L0, f0, hx0, r0⟩ := RdM_of_trod h0
  clear hA0 hval0
  refine (walk W a0 n0 c0 L0 f0 hm0 hx0 r0).mono fun e W' ⟨he, hg⟩ => ?_
  subst he
  refine ⟨_, rfl, _, _, _, [], (p0 ++ []), [], hW', ?_, ?_, rfl, hg.frame _, fun h => by cases h⟩
  · exact (trodAll_cons_mk (shut_bool Try.underlying4 _) trodAll_mk0)
  · exact (trodAll_cons_mk (Below.trod laidOut (by kernel_rfl) (of_decide_eq_true (by kernel_rfl)) h0 hg (fun x hx => hW'.lt x (by simp [hx]))) trodAll_mk0)

theorem over : Rows.fnExactDeterminantRow.holds Try.pinned (OpenSpec.ofChange Rows.fnExactDeterminantSpec) :=
  OpenClaim.holds_of_wide 3 Try.f3 rfl rfl rfl rfl rfl rfl rfl ⟨rfl, rfl, rfl, rfl, rfl⟩ rfl rfl rfl rfl rfl (by kernel_rfl) Try.func3 (by kernel_rfl)
    (of_decide_eq_true (by kernel_rfl)) (by unfold Func.isWrapper; first | (rw [if_pos (by decide +kernel)]; kernel_rfl) | (rw [if_neg (by decide +kernel)]; exact ⟨rfl, rfl⟩))
    (fun os started H enc _ => lifted os started H enc)

theorem proved : Rows.FnExactDeterminantSaid :=
  over
end Go.Proofs.Ytaffdoihmalilaa.fnExactDeterminant
