/- 'FnExactDotOf': for all arguments the law answers true. No further condition. -/
import Derived.Test.YtijbecjkldaddaaRows
import Derived.Test.YtijbecjkldaddaaVec
import Derived.Test.YtijbecjkldaddaaOwn
import Derived.OpenShut
import Derived.Carry
namespace Go.Proofs.Ytijbecjkldaddaa.fnExactDotOf
open Go.ChangeShapes Go.WideShapes Go.ChangeAt Go.RowKit
set_option linter.unusedVariables false

theorem own : ownKnob Try.prog.godebug = none := by kernel_rfl
theorem laidOut : laidOutB Try.prog = true := by kernel_rfl
set_option maxHeartbeats 4000000 in
set_option maxRecDepth 100000 in
theorem walk (w : World) (a0 : Option Addr) (n0 c0 : Nat) (f0 : Nat → Int) (hm0 : n0 ≤ maxLen) (r0 : RdR w a0 n0 f0) (a1 : Option Addr) (n1 c1 : Nat) (f1 : Nat → Int) (hm1 : n1 ≤ maxLen) (r1 : RdR w a1 n1 f1) :
    Calls Try.prog 5 #[.slice a0 n0 c0, .slice a1 n1 c1] w fun e w' => e = .returned (.bool true) ∧ Below w.heap.size w w' := by
  have R0 := Lib.hid r0
  clear r0
  have R1 := Lib.hid r1
  clear r1
  by_cases hl0 : 1048576 < n0
  · have hd0 : decide (1048576 < (n0 : Int)) = true := by simp; omega
    go_enter Try.func5, Try.ntmps5
    go_wp2_with fail
    go_ret
    exact ⟨rfl, Below.refl _ _⟩
  have hd0 : decide (1048576 < (n0 : Int)) = false := by simp; omega
  by_cases hl1 : 1048576 < n1
  · have hd1 : decide (1048576 < (n1 : Int)) = true := by simp; omega
    go_enter Try.func5, Try.ntmps5
    go_wp2_with fail
    go_ret
    exact ⟨rfl, Below.refl _ _⟩
  have hd1 : decide (1048576 < (n1 : Int)) = false := by simp; omega
  have pair : ∃ (vv cd : Int), (∀ (x0 : Option Addr) (y0 : Nat) (x1 : Option Addr) (y1 : Nat) (u : World), RdR u x0 n0 f0 → RdR u x1 n1 f1 → Calls Try.prog 44 #[.slice x0 n0 y0, .slice x1 n1 y1] u (IntRes u vv cd)) ∧ (∀ (x0 : Option Addr) (y0 : Nat) (x1 : Option Addr) (y1 : Nat) (u : World), RdR u x0 n0 f0 → RdR u x1 n1 f1 → Calls Try.prog 46 #[.slice x0 n0 y0, .slice x1 n1 y1] u (IntRes u vv cd)) := by
    refine ⟨_, _, fun x0 y0 x1 y1 u z0 z1 => specDotOf_f x0 n0 y0 f0 x1 n1 y1 f1 u z0 (by omega) z1 (by omega), fun x0 y0 x1 y1 u z0 z1 => implDotOf_f x0 n0 y0 f0 x1 n1 y1 f1 u z0 (by omega) z1 (by omega)⟩
  obtain ⟨vv, cd, hS, hI⟩ := pair
  have HS := Lib.hid hS
  have HI := Lib.hid hI
  clear hS hI
  have hcd : (cd != cd) = false := by simp
  have hvv : (vv != vv) = false := by simp
  go_enter Try.func5, Try.ntmps5
  go_wp2_with fail
  refine (toInt64S_f _ _ _ f0 _ (R0.out.below (Below.refl _ _) (Nat.le_refl _)) (by omega)).mono ?_
  rintro e w1 ⟨rfl, q, b, sz⟩
  have C0 := Lib.hid q
  have ZC0 := Lib.hid sz
  have BB := Lib.hid b
  clear q b sz
  have Tw1 := Lib.hid (show Below w.heap.size w w1 from BB.out)
  clear BB
  go_wp2_with fail
  refine (toInt64S_f _ _ _ f1 _ (R1.out.below Tw1.out (Nat.le_refl _)) (by omega)).mono ?_
  rintro e w2 ⟨rfl, q, b, sz⟩
  have C1 := Lib.hid q
  have ZC1 := Lib.hid sz
  have BB := Lib.hid b
  clear q b sz
  have Tw2 := Lib.hid (Tw1.out.trans ((BB.out).mono Tw1.out.size))
  have C0 := Lib.hid (C0.out.below (BB.out) (RowB.lt C0.out))
  clear BB
  go_wp2_with fail
  refine (HS.out _ _ _ _ _ (C0.out.rd) (C1.out.rd)).mono ?_
  rintro e w3 ⟨rfl, b⟩
  have BB := Lib.hid b
  clear b
  have Tw3 := Lib.hid (Tw2.out.trans ((BB.out).mono Tw2.out.size))
  clear BB
  clear C0 C1
  go_wp2_with fail
  refine (toInt64S_f _ _ _ f0 _ (R0.out.below Tw3.out (Nat.le_refl _)) (by omega)).mono ?_
  rintro e w4 ⟨rfl, q, b, sz⟩
  have D0 := Lib.hid q
  have ZD0 := Lib.hid sz
  have BB := Lib.hid b
  clear q b sz
  have Tw4 := Lib.hid (Tw3.out.trans ((BB.out).mono Tw3.out.size))
  clear BB
  go_wp2_with fail
  refine (toInt64S_f _ _ _ f1 _ (R1.out.below Tw4.out (Nat.le_refl _)) (by omega)).mono ?_
  rintro e w5 ⟨rfl, q, b, sz⟩
  have D1 := Lib.hid q
  have ZD1 := Lib.hid sz
  have BB := Lib.hid b
  clear q b sz
  have Tw5 := Lib.hid (Tw4.out.trans ((BB.out).mono Tw4.out.size))
  have D0 := Lib.hid (D0.out.below (BB.out) (RowB.lt D0.out))
  clear BB
  go_wp2_with fail
  refine (HI.out _ _ _ _ _ (D0.out.rd) (D1.out.rd)).mono ?_
  rintro e w6 ⟨rfl, b⟩
  have BB := Lib.hid b
  clear b
  have Tw6 := Lib.hid (Tw5.out.trans ((BB.out).mono Tw5.out.size))
  have D0 := Lib.hid (D0.out.below (BB.out) (RowB.lt D0.out))
  have D1 := Lib.hid (D1.out.below (BB.out) (RowB.lt D1.out))
  clear BB
  go_wp2_with fail
  refine (toInt64S_f _ _ _ f0 _ (R0.out.below Tw6.out (Nat.le_refl _)) (by omega)).mono ?_
  rintro e w7 ⟨rfl, q, b, sz⟩
  have E0 := Lib.hid q
  have ZE0 := Lib.hid sz
  have BB := Lib.hid b
  clear q b sz
  have Tw7 := Lib.hid (Tw6.out.trans ((BB.out).mono Tw6.out.size))
  have D0 := Lib.hid (D0.out.below (BB.out) (RowB.lt D0.out))
  have D1 := Lib.hid (D1.out.below (BB.out) (RowB.lt D1.out))
  clear BB
  go_wp2_with fail
  refine (eqInt64S_f _ _ _ _ _ _ _ D0.out.rd E0.out.rd (by omega)).mono ?_
  rintro e w8 ⟨rfl, b⟩
  have BB := Lib.hid b
  clear b
  have Tw8 := Lib.hid (Tw7.out.trans ((BB.out).mono Tw7.out.size))
  have D0 := Lib.hid (D0.out.below (BB.out) (RowB.lt D0.out))
  have D1 := Lib.hid (D1.out.below (BB.out) (RowB.lt D1.out))
  have E0 := Lib.hid (E0.out.below (BB.out) (RowB.lt E0.out))
  clear BB
  clear E0 ZE0
  go_wp2_with fail
  refine (toInt64S_f _ _ _ f1 _ (R1.out.below Tw8.out (Nat.le_refl _)) (by omega)).mono ?_
  rintro e w9 ⟨rfl, q, b, sz⟩
  have E1 := Lib.hid q
  have ZE1 := Lib.hid sz
  have BB := Lib.hid b
  clear q b sz
  have Tw9 := Lib.hid (Tw8.out.trans ((BB.out).mono Tw8.out.size))
  have D0 := Lib.hid (D0.out.below (BB.out) (RowB.lt D0.out))
  have D1 := Lib.hid (D1.out.below (BB.out) (RowB.lt D1.out))
  clear BB
  go_wp2_with fail
  refine (eqInt64S_f _ _ _ _ _ _ _ D1.out.rd E1.out.rd (by omega)).mono ?_
  rintro e w10 ⟨rfl, b⟩
  have BB := Lib.hid b
  clear b
  have Tw10 := Lib.hid (Tw9.out.trans ((BB.out).mono Tw9.out.size))
  have D0 := Lib.hid (D0.out.below (BB.out) (RowB.lt D0.out))
  have D1 := Lib.hid (D1.out.below (BB.out) (RowB.lt D1.out))
  have E1 := Lib.hid (E1.out.below (BB.out) (RowB.lt E1.out))
  clear BB
  clear E1 ZE1
  go_wp2_with fail
  go_ret
  exact ⟨rfl, Tw10.out⟩

set_option maxRecDepth 100000 in
theorem lifted (os : Os) (started : os.Started) (H : Type) (enc : TypeId × Value → H) :
    ReturnsInHanded {} Try.checked os 5 .any (Rows.fnExactDotOfSpec.pre6 enc Try.prog Try.f5 Rows.fnExactDotOfRow.domain false) (Rows.fnExactDotOfSpec.post enc Try.prog Try.f5 false true false false) := by
  refine returnsInHanded_of_change (C := Try.checked) own started (by kernel_rfl) Try.func5
    (ChangeSpec.witness6 (enc := enc) (C := Try.checked) false ⟨#[], #[.slice none 0 0, .slice none 0 0], []⟩ 8 (by kernel_rfl) (by kernel_rfl) (by kernel_rfl) (by kernel_rfl)) ?_
  intro W base args ds gs before hval0 hW hcnd _
  have hval : ∀ (j : Nat) t v, Try.f5.params[j]? = some t → args[j]? = some v → Value.okWide Try.prog W .any base t v := hval0
  have hW' := hW
  obtain ⟨p, q, hA0, hV, rfl, hfz, hnd⟩ := hW
  have hA : DataW.TrodAll enc Try.prog W 0 (fun _ => true) true Try.f5.params.toList args.toList ds p := hA0
  rw [Try.params5] at hA hval
  obtain ⟨v0, vs0, d0, ds0, p0, q0, hargs, rfl, rfl, h0, t0⟩ := trodAll_cons hA
  obtain ⟨v1, vs1, d1, ds1, p1, q1, rfl, rfl, rfl, h1, t1⟩ := trodAll_cons t0
  obtain ⟨rfl, rfl, rfl⟩ := trodAll_nil t1
  obtain rfl : args = #[v0, v1] := by cases args; simp_all
  obtain ⟨rfl, rfl⟩ := trodVars_none hV
  obtain ⟨a0, n0, c0, rfl⟩ := okWide_slice Try.underlying35 (hval 0 35 v0 rfl rfl)
  obtain ⟨hm0, f0, r0⟩ := RdR_of_trod h0
  obtain ⟨a1, n1, c1, rfl⟩ := okWide_slice Try.underlying35 (hval 1 35 v1 rfl rfl)
  obtain ⟨hm1, f1, r1⟩ := RdR_of_trod h1
  clear hA0 hval0
  refine (walk W a0 n0 c0 f0 hm0 r0 a1 n1 c1 f1 hm1 r1).mono fun e W' ⟨he, hg⟩ => ?_
  subst he
  refine ⟨_, rfl, _, _, _, [], (p0 ++ (p1 ++ [])), [], hW', ?_, ?_, rfl, hg.frame _, fun h => by cases h⟩
  · exact (trodAll_cons_mk (shut_bool Try.underlying4 _) trodAll_mk0)
  · exact (trodAll_cons_mk (Below.trod laidOut (by kernel_rfl) (of_decide_eq_true (by kernel_rfl)) h0 hg (fun x hx => hW'.lt x (by simp [hx]))) (trodAll_cons_mk (Below.trod laidOut (by kernel_rfl) (of_decide_eq_true (by kernel_rfl)) h1 hg (fun x hx => hW'.lt x (by simp [hx]))) trodAll_mk0))

theorem over : Rows.fnExactDotOfRow.holds Try.pinned (OpenSpec.ofChange Rows.fnExactDotOfSpec) :=
  OpenClaim.holds_of_wide 5 Try.f5 rfl rfl rfl rfl rfl rfl rfl ⟨rfl, rfl, rfl, rfl, rfl⟩ rfl rfl rfl rfl rfl (by kernel_rfl) Try.func5 (by kernel_rfl)
    (of_decide_eq_true (by kernel_rfl)) (by unfold Func.isWrapper; first | (rw [if_pos (by decide +kernel)]; kernel_rfl) | (rw [if_neg (by decide +kernel)]; exact ⟨rfl, rfl⟩))
    (fun os started H enc _ => lifted os started H enc)

theorem proved : Rows.FnExactDotOfSaid :=
  over
end Go.Proofs.Ytijbecjkldaddaa.fnExactDotOf
