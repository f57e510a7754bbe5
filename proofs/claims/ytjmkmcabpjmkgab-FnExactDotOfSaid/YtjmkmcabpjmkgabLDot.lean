/- 'FnExactDotOf': for all arguments the law answers true. No further condition. -/
import Derived.Test.YtjmkmcabpjmkgabRows
import Derived.Test.YtjmkmcabpjmkgabDot
import Derived.OpenShut
import Derived.Carry
namespace Go.Proofs.Ytjmkmcabpjmkgab.fnExactDotOf
open Go.ChangeShapes Go.WideShapes Go.ChangeAt Go.RowKit
set_option linter.unusedVariables false

theorem own : ownKnob Try.prog.godebug = none := by kernel_rfl
theorem laidOut : laidOutB Try.prog = true := by kernel_rfl
theorem walk (w : World) (a0 : Option Addr) (n0 c0 : Nat) (xs0 : List Int) (r0 : RdI w a0 n0 xs0) (a1 : Option Addr) (n1 c1 : Nat) (xs1 : List Int) (r1 : RdI w a1 n1 xs1) :
    Calls Try.prog 5 #[.slice a0 n0 c0, .slice a1 n1 c1] w fun e w' => e = .returned (.bool true) ∧ Below w.heap.size w w' := by
  by_cases hn0 : n0 ≤ 1048576
  · have hd0 : decide (1048576 < (n0 : Int)) = false := by simp; omega
    by_cases hn1 : n1 ≤ 1048576
    · have hd1 : decide (1048576 < (n1 : Int)) = false := by simp; omega
      have e0 : (fDot xs0 xs1 != fDot xs0 xs1) = false := by simp
      have e1 : (cDot xs0 xs1 != cDot xs0 xs1) = false := by simp
      go_enter Try.func5, Try.ntmps5
      go_wp2_with fail
      refine (toInt64S_any _ _ _ xs0 _ r0 hn0).mono ?_
      rintro e w1 ⟨rfl, q1, b1, _⟩
      have t1 := b1
      go_wp2_with fail
      refine (toInt64S_any _ _ _ xs1 _ (r1.below t1 (Nat.le_refl _)) hn1).mono ?_
      rintro e w2 ⟨rfl, q2, b2, _⟩
      have t2 := t1.trans (b2.mono t1.size)
      go_wp2_with fail
      refine (specDot_any _ _ _ _ _ _ xs0 xs1 _ (q1.below b2 (Nat.le_refl _)) q2 hn0 hn1).mono ?_
      rintro e w3 ⟨rfl, b3⟩
      have t3 := t2.trans (b3.mono t2.size)
      go_wp2_with fail
      refine (toInt64S_any _ _ _ xs0 _ (r0.below t3 (Nat.le_refl _)) hn0).mono ?_
      rintro e w4 ⟨rfl, q4, b4, _⟩
      have t4 := t3.trans (b4.mono t3.size)
      go_wp2_with fail
      refine (toInt64S_any _ _ _ xs1 _ (r1.below t4 (Nat.le_refl _)) hn1).mono ?_
      rintro e w5 ⟨rfl, q5, b5, _⟩
      have t5 := t4.trans (b5.mono t4.size)
      have q45 := q4.below b5 (Nat.le_refl _)
      go_wp2_with fail
      refine (implDot_any _ _ _ _ _ _ xs0 xs1 _ q45 q5 hn0 hn1).mono ?_
      rintro e w6 ⟨rfl, b6⟩
      have t6 := t5.trans (b6.mono t5.size)
      go_wp2_with fail
      refine (toInt64S_any _ _ _ xs0 _ (r0.below t6 (Nat.le_refl _)) hn0).mono ?_
      rintro e w7 ⟨rfl, q7, b7, _⟩
      have t7 := t6.trans (b7.mono t6.size)
      go_wp2_with fail
      refine (eqInt64S_any _ _ _ _ _ xs0 _ ((q45.below b6 (Nat.le_refl _)).below b7 (Nat.le_refl _)) q7 hn0).mono ?_
      rintro e w8 ⟨rfl, b8⟩
      have t8 := t7.trans (b8.mono t7.size)
      go_wp2_with fail
      refine (toInt64S_any _ _ _ xs1 _ (r1.below t8 (Nat.le_refl _)) hn1).mono ?_
      rintro e w9 ⟨rfl, q9, b9, _⟩
      have t9 := t8.trans (b9.mono t8.size)
      go_wp2_with fail
      refine (eqInt64S_any _ _ _ _ _ xs1 _ ((((q5.below b6 (Nat.le_refl _)).below b7 (Nat.le_refl _)).below b8 (Nat.le_refl _)).below b9 (Nat.le_refl _)) q9 hn1).mono ?_
      rintro e w10 ⟨rfl, b10⟩
      have t10 := t9.trans (b10.mono t9.size)
      go_wp2_with fail
      go_ret
      exact ⟨rfl, t10⟩
    · have hd1 : 1048576 < (n1 : Int) := by omega
      go_enter Try.func5, Try.ntmps5
      go_wp2_with fail
      go_ret
      exact ⟨rfl, Below.refl _ _⟩
  · have hd0 : 1048576 < (n0 : Int) := by omega
    go_enter Try.func5, Try.ntmps5
    go_wp2_with fail
    go_ret
    exact ⟨rfl, Below.refl _ _⟩

set_option maxRecDepth 100000 in
theorem lifted (os : Os) (started : os.Started) (H : Type) (enc : TypeId × Value → H) :
    ReturnsInHanded {} Try.checked os 5 .any (Rows.fnExactDotOfSpec.pre6 enc Try.prog Try.f5 Rows.fnExactDotOfRow.domain false) (Rows.fnExactDotOfSpec.post enc Try.prog Try.f5 false true false false) := by
  refine returnsInHanded_of_change (C := Try.checked) own started (by kernel_rfl) Try.func5
    (ChangeSpec.witness6 (enc := enc) (C := Try.checked) false ⟨#[], #[.slice none 0 0, .slice none 0 0], []⟩ 8 (by kernel_rfl) (by kernel_rfl) (by kernel_rfl) (by kernel_rfl)) ?_
  intro W base args ds gs before hval0 hW hcnd _
  have hval : ∀ (j : Nat) t v, Try.f5.params[j]? = some t → args[j]? = some v → Value.okWide Try.prog W .any base t v := hval0
  have hW' := hW
  obtain ⟨p, q, hA0, hV, rfl, hfz, hnd⟩ := hW
  have hA : DataW.TrodAll enc Try.prog W 0 (fun _ => true) true Try.f5.params.toList args.toList ds p := hA0
  rw [Try.params5] at hA hval
  obtain ⟨v0, vs0, d0, ds0, p0, q0, hargs, rfl, rfl, h0, t0⟩ := trodAll_cons hA
  obtain ⟨v1, vs1, d1, ds1, p1, q1, rfl, rfl, rfl, h1, t1⟩ := trodAll_cons t0
  obtain ⟨rfl, rfl, rfl⟩ := trodAll_nil t1
  obtain rfl : args = #[v0, v1] := by cases args; simp_all
  obtain ⟨rfl, rfl⟩ := trodVars_none hV
  obtain ⟨a0, n0, c0, rfl⟩ := okWide_slice Try.underlying27 (hval 0 27 v0 rfl rfl)
  obtain ⟨xs0, r0⟩ := RdI_of_trod h0
  obtain ⟨a1, n1, c1, rfl⟩ := okWide_slice Try.underlying27 (hval 1 27 v1 rfl rfl)
  obtain ⟨xs1, r1⟩ := RdI_of_trod h1
  clear hA0 hval0
  refine (walk W a0 n0 c0 xs0 r0 a1 n1 c1 xs1 r1).mono fun e W' ⟨he, hg⟩ => ?_
  subst he
  refine ⟨_, rfl, _, _, _, [], (p0 ++ (p1 ++ [])), [], hW', ?_, ?_, rfl, hg.frame _, fun h => by cases h⟩
  · exact (trodAll_cons_mk (shut_bool Try.underlying4 _) trodAll_mk0)
  · exact (trodAll_cons_mk (Below.trod laidOut (by kernel_rfl) (of_decide_eq_true (by kernel_rfl)) h0 hg (fun x hx => hW'.lt x (by simp [hx]))) (trodAll_cons_mk (Below.trod laidOut (by kernel_rfl) (of_decide_eq_true (by kernel_rfl)) h1 hg (fun x hx => hW'.lt x (by simp [hx]))) trodAll_mk0))

theorem over : Rows.fnExactDotOfRow.holds Try.pinned (OpenSpec.ofChange Rows.fnExactDotOfSpec) :=
  OpenClaim.holds_of_wide 5 Try.f5 rfl rfl rfl rfl rfl rfl rfl ⟨rfl, rfl, rfl, rfl, rfl⟩ rfl rfl rfl rfl rfl (by kernel_rfl) Try.func5 (by kernel_rfl)
    (of_decide_eq_true (by kernel_rfl)) (by unfold Func.isWrapper; first | (rw [if_pos (by decide +kernel)]; kernel_rfl) | (rw [if_neg (by decide +kernel)]; exact ⟨rfl, rfl⟩))
    (fun os started H enc _ => lifted os started H enc)

theorem proved : Rows.FnExactDotOfSaid :=
  over
end Go.Proofs.Ytjmkmcabpjmkgab.fnExactDotOf
