/- 'FnExactAllRings': for all arguments the law answers true. No further condition. -/
import Derived.Test.YtmdmojklagmmiaaRows
import Derived.Test.YtmdmojklagmmiaaEoEK
import Derived.OpenShut
import Derived.Carry
namespace Go.Proofs.Ytmdmojklagmmiaa.fnExactAllRings
open Go.ChangeShapes Go.WideShapes Go.ChangeAt Go.RowKit
set_option linter.unusedVariables false

theorem own : ownKnob Try.prog.godebug = none := by kernel_rfl
theorem laidOut : laidOutB Try.prog = true := by kernel_rfl
set_option maxHeartbeats 4000000 in
set_option maxRecDepth 100000 in
theorem walk (w : World) (k0 : Int) (w0 : (Lit.int .i64 k0).wf = true) (k1 : Int) (w1 : (Lit.int .i64 k1).wf = true) :
    Calls Try.prog 6 #[.int .i64 k0, .int .i64 k1] w fun e w' => e = .returned (.bool true) ∧ Below w.heap.size w w' := by
  have W0 := Lib.hid w0
  clear w0
  have W1 := Lib.hid w1
  clear w1
  have pair : ∃ (N n : Nat) (F : Nat → Nat → Nat → Nat → Int) (cd : Int), N ≤ 1000000 ∧ n ≤ 3 ∧ (∀ (u : World), Calls Try.prog 22 #[.int .i64 k0, .int .i64 k1] u (RgsRes u N n F cd)) ∧ (∀ (u : World), Calls Try.prog 23 #[.int .i64 k0, .int .i64 k1] u (RgsRes u N n F cd)) :=
    ⟨_, _, _, _, alN_le k0 k1, all_le k0 k1 W0.out, fun u => specAll_f k0 k1 u W0.out W1.out, fun u => implAll_f k0 k1 u W0.out W1.out⟩
  obtain ⟨N, n, F, cd, hN, hn, hS, hI⟩ := pair
  have HS := Lib.hid hS
  have HI := Lib.hid hI
  clear hS hI
  have hcd : (cd != cd) = false := by simp
  have hs3 := sum3_kk hn
  have hpr : N * sum3 (kF n) (kG n) n ≤ 27000000 := by
    have := Nat.mul_le_mul hN hs3
    omega
  have HS3 := Lib.hid hs3
  have HPr := Lib.hid hpr
  obtain ⟨pn, hpn⟩ : ∃ pn, pn = N * sum3 (kF n) (kG n) n := ⟨_, rfl⟩
  rw [← hpn] at hpr
  have PN := Lib.hid hpn
  clear hpn hs3
  have hq0 : decide ((1 : Int) + (pn : Int) < 0) = false := by simp; omega
  have hq1 : ((1 : Int) + (pn : Int) != (1 : Int) + (pn : Int)) = false := by simp
  go_enter Try.func6, Try.ntmps6
  go_wp2_with fail
  refine (HS.out _).mono ?_
  rintro e w1 ⟨sa, sc, rfl, q, b⟩
  have SR := Lib.hid q.rd
  have B1 := Lib.hid b
  clear q b
  go_wp2_with fail
  refine (HI.out _).mono ?_
  rintro e w2 ⟨ga, gc, rfl, q, b⟩
  have GR := Lib.hid q
  have B2 := Lib.hid b
  clear q b
  have SR2 := Lib.hid (SR.out.below B2.out)
  go_wp2_with fail
  refine (eqRingS_f _ _ _ _ _ _ _ _ GR.out.rd SR2.out (by omega) (by omega)).mono ?_
  rintro e w3 ⟨rfl, b⟩
  have B3 := Lib.hid b
  clear b
  have GR3 := Lib.hid (GR.out.below B3.out)
  have MG := Lib.hid (show Calls Try.prog 25 #[.slice ga N gc, .int .i64 1] w3 fun e w' => e = .returned (.int .i64 (1 + (pn : Int))) ∧ OwnS w' w1.heap.size w2.heap.size ga N n (mkS 1 n) ∧ Only (fun k => w1.heap.size ≤ k ∧ k < w2.heap.size) w3 w' from by
    rw [PN.out]; exact markRingS_f _ _ _ _ _ _ _ _ _ GR3.out (by omega) (by have := HPr.out; omega) (by omega) (by have := HS3.out; omega) (by omega) (by omega))
  go_wp2_with fail
  refine MG.out.mono ?_
  rintro e w4 ⟨rfl, q, ho⟩
  have GM := Lib.hid q
  have B4 := Lib.hid (Only.below ho (B := w1.heap.size) (fun k hk => hk.1))
  clear q ho MG
  have HG := Lib.hid (show Calls Try.prog 26 #[.slice ga N gc, .int .i64 1] w4 fun e w' => e = .returned (.int .i64 (1 + (pn : Int))) ∧ w4 = w' from by
    rw [PN.out]; exact heldRingS_f _ _ _ _ _ _ GM.out.rd (by omega) (by have := HPr.out; omega) (by omega) (by have := HS3.out; omega) (by omega) (by omega))
  go_wp2_with fail
  refine HG.out.mono ?_
  rintro e w5 ⟨rfl, rfl⟩
  clear HG
  have T4 := Lib.hid (show Below w1.heap.size w1 w4 from (B2.out.trans (B3.out.mono B2.out.size)).trans B4.out)
  go_wp2_with fail
  refine (HI.out _).mono ?_
  rintro e w6 ⟨ha, hc, rfl, q, b⟩
  have HR := Lib.hid q.rd
  have B6 := Lib.hid b
  clear q b
  have T6 := Lib.hid (T4.out.trans (B6.out.mono T4.out.size))
  have SR6 := Lib.hid (SR.out.below T6.out)
  have GM6 := Lib.hid (GM.out.below B6.out)
  go_wp2_with fail
  refine (eqRingS_f _ _ _ _ _ _ _ _ HR.out SR6.out (by omega) (by omega)).mono ?_
  rintro e w7 ⟨rfl, b⟩
  have B7 := Lib.hid b
  clear b
  have GM7 := Lib.hid (GM6.out.below B7.out)
  have T7 := Lib.hid (T6.out.trans (B7.out.mono T6.out.size))
  have HG := Lib.hid (show Calls Try.prog 26 #[.slice ga N gc, .int .i64 1] w7 fun e w' => e = .returned (.int .i64 (1 + (pn : Int))) ∧ w7 = w' from by
    rw [PN.out]; exact heldRingS_f _ _ _ _ _ _ GM7.out.rd (by omega) (by have := HPr.out; omega) (by omega) (by have := HS3.out; omega) (by omega) (by omega))
  go_wp2_with fail
  refine HG.out.mono ?_
  rintro e w8 ⟨rfl, rfl⟩
  clear HG
  go_wp2_with fail
  go_ret
  exact ⟨rfl, B1.out.trans (T7.out.mono B1.out.size)⟩

set_option maxRecDepth 100000 in
theorem lifted (os : Os) (started : os.Started) (H : Type) (enc : TypeId × Value → H) :
    ReturnsInHanded {} Try.checked os 6 .any (Rows.fnExactAllRingsSpec.pre6 enc Try.prog Try.f6 Rows.fnExactAllRingsRow.domain false) (Rows.fnExactAllRingsSpec.post enc Try.prog Try.f6 false true false false) := by
  refine returnsInHanded_of_change (C := Try.checked) own started (by kernel_rfl) Try.func6
    (ChangeSpec.witness6 (enc := enc) (C := Try.checked) false ⟨#[], #[.int .i64 0, .int .i64 0], []⟩ 8 (by kernel_rfl) (by kernel_rfl) (by kernel_rfl) (by kernel_rfl)) ?_
  intro W base args ds gs before hval0 hW hcnd _
  have hval : ∀ (j : Nat) t v, Try.f6.params[j]? = some t → args[j]? = some v → Value.okWide Try.prog W .any base t v := hval0
  have hW' := hW
  obtain ⟨p, q, hA0, hV, rfl, hfz, hnd⟩ := hW
  have hA : DataW.TrodAll enc Try.prog W 0 (fun _ => true) true Try.f6.params.toList args.toList ds p := hA0
  rw [Try.params6] at hA hval
  obtain ⟨v0, vs0, d0, ds0, p0, q0, hargs, rfl, rfl, h0, t0⟩ := trodAll_cons hA
  obtain ⟨v1, vs1, d1, ds1, p1, q1, rfl, rfl, rfl, h1, t1⟩ := trodAll_cons t0
  obtain ⟨rfl, rfl, rfl⟩ := trodAll_nil t1
  obtain rfl : args = #[v0, v1] := by cases args; simp_all
  obtain ⟨rfl, rfl⟩ := trodVars_none hV
  obtain ⟨k0, rfl, rfl, rfl, w0⟩ := open_int Try.underlying2 (hval 0 2 v0 rfl rfl) h0
  obtain ⟨k1, rfl, rfl, rfl, w1⟩ := open_int Try.underlying2 (hval 1 2 v1 rfl rfl) h1
  clear hA0 hval0
  refine (walk W k0 w0 k1 w1).mono fun e W' ⟨he, hg⟩ => ?_
  subst he
  refine ⟨_, rfl, _, _, _, [], ([] ++ ([] ++ [])), [], hW', ?_, ?_, rfl, hg.frame _, fun h => by cases h⟩
  · exact (trodAll_cons_mk (shut_bool Try.underlying4 _) trodAll_mk0)
  · exact (trodAll_cons_mk (shut_int Try.underlying2 w0) (trodAll_cons_mk (shut_int Try.underlying2 w1) trodAll_mk0))

theorem over : Rows.fnExactAllRingsRow.holds Try.pinned (OpenSpec.ofChange Rows.fnExactAllRingsSpec) :=
  OpenClaim.holds_of_wide 6 Try.f6 rfl rfl rfl rfl rfl rfl rfl ⟨rfl, rfl, rfl, rfl, rfl⟩ rfl rfl rfl rfl rfl (by kernel_rfl) Try.func6 (by kernel_rfl)
    (of_decide_eq_true (by kernel_rfl)) (by unfold Func.isWrapper; first | (rw [if_pos (by decide +kernel)]; kernel_rfl) | (rw [if_neg (by decide +kernel)]; exact ⟨rfl, rfl⟩))
    (fun os started H enc _ => lifted os started H enc)

theorem proved : Rows.FnExactAllRingsSaid :=
  over
end Go.Proofs.Ytmdmojklagmmiaa.fnExactAllRings
