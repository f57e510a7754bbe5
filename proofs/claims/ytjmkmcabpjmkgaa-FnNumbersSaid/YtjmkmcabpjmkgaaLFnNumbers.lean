/- 'FnNumbers': for all arguments the law answers true. No further condition. -/
import Derived.Test.YtjmkmcabpjmkgaaRows
import Derived.Test.YtjmkmcabpjmkgaaFnNW
import Derived.OpenShut
import Derived.Carry
namespace Go.Proofs.Ytjmkmcabpjmkgaa.fnNumbers
open Go.ChangeShapes Go.WideShapes Go.ChangeAt Go.RowKit
set_option linter.unusedVariables false

theorem own : ownKnob Try.prog.godebug = none := by kernel_rfl
theorem laidOut : laidOutB Try.prog = true := by kernel_rfl
set_option maxRecDepth 100000 in
theorem walk (w : World) (a0 : Option Addr) (n0 c0 : Nat) (xs0 : List Int) (r0 : RdB w a0 n0 xs0) :
    Calls Try.prog 3 #[.slice a0 n0 c0] w fun e w' => e = .returned (.bool true) ∧ Below w.heap.size w w' := by
  by_cases hn0 : n0 ≤ 4096
  · have hd0 : decide (4096 < (n0 : Int)) = false := by simp; omega
    go_enter Try.func3, Try.ntmps3
    go_wp2_with (go_at_call 12; refine (big_any _ _ _ _).mono ?_; rintro e w' ⟨rfl, rfl⟩)
    refine (drawDiv_any _ _ _ xs0 _ r0 hn0).mono ?_
    rintro e w1 ⟨a, b, hab, rfl, b1⟩
    clear hab
    have r1 := r0.below b1 (Nat.le_refl _)
    have B1 := Lib.hid b1
    clear b1 r0
    have t1 : (cDiv a b != cDiv a b) = false := by simp
    have t2 : (fDiv a b != fDiv a b) = false := by simp
    have t3 : (numB a != numB a) = false := by simp
    go_wp2_with (first | (go_at_call 14; refine (implDiv_any _ _ _).mono ?_; rintro e w' ⟨rfl, rfl⟩) | (go_at_call 15; refine (specDiv_any _ _ _).mono ?_; rintro e w' ⟨rfl, rfl⟩) | (go_at_call 16; refine (isNumber_any _ _).mono ?_; rintro e w' ⟨rfl, rfl⟩) | (go_at_call 17; refine (specIsNum_any _ _).mono ?_; rintro e w' ⟨rfl, rfl⟩))
    refine (drawFrac_any _ _ _ xs0 _ r1 hn0).mono ?_
    rintro e w2 ⟨x, y, hxy, rfl, b2⟩
    clear hxy
    have r2 := r1.below b2 (Nat.le_refl _)
    have B2 := Lib.hid (B1.out.trans (b2.mono B1.out.size))
    clear b2 r1 B1 t3
    have t4 : (cFrac x y != cFrac x y) = false := by simp
    have t5 : (fFrac x y != fFrac x y) = false := by simp
    obtain ⟨f0, f1⟩ := fFrac_bd x y
    obtain ⟨m0, m1⟩ := mul_bound (fFrac x y) (y % 55441) f0 f1 (by omega) (by omega)
    have t6 : (fFrac x y * (y % 55441) % 55441 != x % 55441) = true → ¬ cFrac x y = 0 := fun h h' => by
      have := (frac_law h').1
      simp [this] at h
    have T6 := Lib.hid t6
    clear t6
    obtain ⟨v3, hv3⟩ : ∃ v : Bool, (cFrac x y == 0) = v := ⟨_, rfl⟩
    obtain ⟨v4, hv4⟩ : ∃ v : Bool, (fFrac x y * (y % 55441) % 55441 != x % 55441) = v := ⟨_, rfl⟩
    have V34 := Lib.hid (show (v3 && v4) = false by
      cases v3
      · rfl
      · cases v4
        · rfl
        · exact absurd (by simpa using hv3) (T6.out hv4))
    by_cases h1 : cDiv a b = 0
    · obtain ⟨na, nb, bp, bl, a0', a1', nq, hback⟩ := div_facts h1
      have t7 : (cDiv a b != 0) = false := by simp [h1]
      have Back := Lib.hid hback
      clear h1 hback
      cases v3
      · go_wp2_with (first | (go_at_call 19; refine (implFrac_any _ _ _).mono ?_; rintro e w' ⟨rfl, rfl⟩) | (go_at_call 20; refine (specFrac_any _ _ _).mono ?_; rintro e w' ⟨rfl, rfl⟩) | (go_at_call 21; refine (mod5_any _ _).mono ?_; rintro e w' ⟨rfl, rfl⟩))
        refine (roll_any 901 _ _ _ xs0 _ r2 hn0 (by omega) (by omega)).mono ?_
        rintro e w3 ⟨rfl, hS3, b3⟩
        have B3 := Lib.hid (B2.out.trans (b3.mono B2.out.size))
        have L3 := Lib.hid B2.out.size
        clear b3 r2
        go_wp2_with fail
        refine (below_any _ _ _ hS3 (by omega)).mono ?_
        rintro e w4 ⟨c, c0', c1', rfl, hS4, hO4⟩
        have c2' : c < 55441 := by omega
        have O4 := Lib.hid hO4
        clear hO4 hS3 c1'
        go_wp2_with fail
        refine (below_any _ _ _ hS4 (by omega)).mono ?_
        rintro e w5 ⟨m, m0', m1', rfl, hS5, hO5⟩
        have m2' : m < 2000 := by omega
        have O5 := Lib.hid (O4.out.trans hO5)
        clear hO5 hS4 m1' O4
        go_wp2_with fail
        refine (below_any _ _ _ hS5 (by omega)).mono ?_
        rintro e w6 ⟨k, k0', k1', rfl, hS6, hO6⟩
        have k2' : k < 2000 := by omega
        have O6 := Lib.hid (O5.out.trans hO6)
        clear hO6 hS5 hS6 k1' O5
        have nc := numB_mk c0' c2'
        have e5 := c2_zero nq nb
        have e6 := c2_zero na nb
        have e7 := c2_zero (add_facts na nb).2.1 nb
        have e8 := c2_zero (add_facts na nb).2.1 nc
        have e9 := (pow_int b (m - 1000) bp bl (by omega) (by omega)).1
        have e10 := (pow_int b (k - 1000) bp bl (by omega) (by omega)).1
        have e11 := (pow_int b (m - 1000 + (k - 1000)) bp bl (by omega) (by omega)).1
        have eb := Back.out
        have el := less_law na nb
        have eleft := left_law na nb nc
        have epow := pow_law b (m - 1000) (k - 1000) bp bl (by omega) (by omega) (by omega) (by omega)
        obtain ⟨u0, u1⟩ := fPow_bd b (m - 1000) bp bl (by omega) (by omega)
        obtain ⟨v0, v1⟩ := fPow_bd b (k - 1000) bp bl (by omega) (by omega)
        obtain ⟨uv0, uv1⟩ := mul_bound _ _ u0 u1 v0 v1
        obtain ⟨ac0, ac1⟩ := mul_bound a c a0' a1' c0' c2'
        obtain ⟨bc0, bc1⟩ := mul_bound b c (by omega) bl c0' c2'
        clear na nb nq nc
        go_wp2_with (first | (go_at_call 24; refine (implMul_any _ _ _).mono ?_; rintro e w' ⟨rfl, rfl⟩) | (go_at_call 25; refine (implAdd_any _ _ _).mono ?_; rintro e w' ⟨rfl, rfl⟩) | (go_at_call 26; refine (implSub_any _ _ _).mono ?_; rintro e w' ⟨rfl, rfl⟩) | (go_at_call 27; refine (implPow_any _ _ _).mono ?_; rintro e w' ⟨rfl, rfl⟩) | (go_at_call 21; refine (mod5_any _ _).mono ?_; rintro e w' ⟨rfl, rfl⟩))
        go_ret
        exact ⟨rfl, B3.out.trans (O6.out.below L3.out B3.out.size)⟩
      · cases v4
        · go_wp2_with (first | (go_at_call 19; refine (implFrac_any _ _ _).mono ?_; rintro e w' ⟨rfl, rfl⟩) | (go_at_call 20; refine (specFrac_any _ _ _).mono ?_; rintro e w' ⟨rfl, rfl⟩) | (go_at_call 21; refine (mod5_any _ _).mono ?_; rintro e w' ⟨rfl, rfl⟩))
          refine (roll_any 901 _ _ _ xs0 _ r2 hn0 (by omega) (by omega)).mono ?_
          rintro e w3 ⟨rfl, hS3, b3⟩
          have B3 := Lib.hid (B2.out.trans (b3.mono B2.out.size))
          have L3 := Lib.hid B2.out.size
          clear b3 r2
          go_wp2_with fail
          refine (below_any _ _ _ hS3 (by omega)).mono ?_
          rintro e w4 ⟨c, c0', c1', rfl, hS4, hO4⟩
          have c2' : c < 55441 := by omega
          have O4 := Lib.hid hO4
          clear hO4 hS3 c1'
          go_wp2_with fail
          refine (below_any _ _ _ hS4 (by omega)).mono ?_
          rintro e w5 ⟨m, m0', m1', rfl, hS5, hO5⟩
          have m2' : m < 2000 := by omega
          have O5 := Lib.hid (O4.out.trans hO5)
          clear hO5 hS4 m1' O4
          go_wp2_with fail
          refine (below_any _ _ _ hS5 (by omega)).mono ?_
          rintro e w6 ⟨k, k0', k1', rfl, hS6, hO6⟩
          have k2' : k < 2000 := by omega
          have O6 := Lib.hid (O5.out.trans hO6)
          clear hO6 hS5 hS6 k1' O5
          have nc := numB_mk c0' c2'
          have e5 := c2_zero nq nb
          have e6 := c2_zero na nb
          have e7 := c2_zero (add_facts na nb).2.1 nb
          have e8 := c2_zero (add_facts na nb).2.1 nc
          have e9 := (pow_int b (m - 1000) bp bl (by omega) (by omega)).1
          have e10 := (pow_int b (k - 1000) bp bl (by omega) (by omega)).1
          have e11 := (pow_int b (m - 1000 + (k - 1000)) bp bl (by omega) (by omega)).1
          have eb := Back.out
          have el := less_law na nb
          have eleft := left_law na nb nc
          have epow := pow_law b (m - 1000) (k - 1000) bp bl (by omega) (by omega) (by omega) (by omega)
          obtain ⟨u0, u1⟩ := fPow_bd b (m - 1000) bp bl (by omega) (by omega)
          obtain ⟨v0, v1⟩ := fPow_bd b (k - 1000) bp bl (by omega) (by omega)
          obtain ⟨uv0, uv1⟩ := mul_bound _ _ u0 u1 v0 v1
          obtain ⟨ac0, ac1⟩ := mul_bound a c a0' a1' c0' c2'
          obtain ⟨bc0, bc1⟩ := mul_bound b c (by omega) bl c0' c2'
          clear na nb nq nc
          go_wp2_with (first | (go_at_call 24; refine (implMul_any _ _ _).mono ?_; rintro e w' ⟨rfl, rfl⟩) | (go_at_call 25; refine (implAdd_any _ _ _).mono ?_; rintro e w' ⟨rfl, rfl⟩) | (go_at_call 26; refine (implSub_any _ _ _).mono ?_; rintro e w' ⟨rfl, rfl⟩) | (go_at_call 27; refine (implPow_any _ _ _).mono ?_; rintro e w' ⟨rfl, rfl⟩) | (go_at_call 21; refine (mod5_any _ _).mono ?_; rintro e w' ⟨rfl, rfl⟩))
          go_ret
          exact ⟨rfl, B3.out.trans (O6.out.below L3.out B3.out.size)⟩
        · exact absurd V34.out (by simp)
    · have t7 : (cDiv a b != 0) = true := by simp [h1]
      clear h1
      cases v3
      · go_wp2_with (first | (go_at_call 19; refine (implFrac_any _ _ _).mono ?_; rintro e w' ⟨rfl, rfl⟩) | (go_at_call 20; refine (specFrac_any _ _ _).mono ?_; rintro e w' ⟨rfl, rfl⟩) | (go_at_call 21; refine (mod5_any _ _).mono ?_; rintro e w' ⟨rfl, rfl⟩))
        go_ret
        exact ⟨rfl, B2.out⟩
      · cases v4
        · go_wp2_with (first | (go_at_call 19; refine (implFrac_any _ _ _).mono ?_; rintro e w' ⟨rfl, rfl⟩) | (go_at_call 20; refine (specFrac_any _ _ _).mono ?_; rintro e w' ⟨rfl, rfl⟩) | (go_at_call 21; refine (mod5_any _ _).mono ?_; rintro e w' ⟨rfl, rfl⟩))
          go_ret
          exact ⟨rfl, B2.out⟩
        · exact absurd V34.out (by simp)
  · have hd0 : decide (4096 < (n0 : Int)) = true := by simp; omega
    go_enter Try.func3, Try.ntmps3
    go_wp2_with (go_at_call 12; refine (big_any _ _ _ _).mono ?_; rintro e w' ⟨rfl, rfl⟩)
    go_ret
    exact ⟨rfl, Below.refl _ _⟩

set_option maxRecDepth 100000 in
theorem lifted (os : Os) (started : os.Started) (H : Type) (enc : TypeId × Value → H) :
    ReturnsInHanded {} Try.checked os 3 .any (Rows.fnNumbersSpec.pre6 enc Try.prog Try.f3 Rows.fnNumbersRow.domain false) (Rows.fnNumbersSpec.post enc Try.prog Try.f3 false true false false) := by
  refine returnsInHanded_of_change (C := Try.checked) own started (by kernel_rfl) Try.func3
    (ChangeSpec.witness6 (enc := enc) (C := Try.checked) false ⟨#[], #[.slice none 0 0], []⟩ 8 (by kernel_rfl) (by kernel_rfl) (by kernel_rfl) (by kernel_rfl)) ?_
  intro W base args ds gs before hval0 hW hcnd _
  have hval : ∀ (j : Nat) t v, Try.f3.params[j]? = some t → args[j]? = some v → Value.okWide Try.prog W .any base t v := hval0
  have hW' := hW
  obtain ⟨p, q, hA0, hV, rfl, hfz, hnd⟩ := hW
  have hA : DataW.TrodAll enc Try.prog W 0 (fun _ => true) true Try.f3.params.toList args.toList ds p := hA0
  rw [Try.params3] at hA hval
  obtain ⟨v0, vs0, d0, ds0, p0, q0, hargs, rfl, rfl, h0, t0⟩ := trodAll_cons hA
  obtain ⟨rfl, rfl, rfl⟩ := trodAll_nil t0
  obtain rfl : args = #[v0] := by cases args; simp_all
  obtain ⟨rfl, rfl⟩ := trodVars_none hV
  obtain ⟨a0, n0, c0, rfl⟩ := okWide_slice Try.underlying22 (hval 0 22 v0 rfl rfl)
  obtain ⟨xs0, r0⟩ := RdB_of_trod h0
  clear hA0 hval0
  refine (walk W a0 n0 c0 xs0 r0).mono fun e W' ⟨he, hg⟩ => ?_
  subst he
  refine ⟨_, rfl, _, _, _, [], (p0 ++ []), [], hW', ?_, ?_, rfl, hg.frame _, fun h => by cases h⟩
  · exact (trodAll_cons_mk (shut_bool Try.underlying4 _) trodAll_mk0)
  · exact (trodAll_cons_mk (Below.trod laidOut (by kernel_rfl) (of_decide_eq_true (by kernel_rfl)) h0 hg (fun x hx => hW'.lt x (by simp [hx]))) trodAll_mk0)

theorem over : Rows.fnNumbersRow.holds Try.pinned (OpenSpec.ofChange Rows.fnNumbersSpec) :=
  OpenClaim.holds_of_wide 3 Try.f3 rfl rfl rfl rfl rfl rfl rfl ⟨rfl, rfl, rfl, rfl, rfl⟩ rfl rfl rfl rfl rfl (by kernel_rfl) Try.func3 (by kernel_rfl)
    (of_decide_eq_true (by kernel_rfl)) (by unfold Func.isWrapper; first | (rw [if_pos (by decide +kernel)]; kernel_rfl) | (rw [if_neg (by decide +kernel)]; exact ⟨rfl, rfl⟩))
    (fun os started H enc _ => lifted os started H enc)

theorem proved : Rows.FnNumbersSaid :=
  over
end Go.Proofs.Ytjmkmcabpjmkgaa.fnNumbers
