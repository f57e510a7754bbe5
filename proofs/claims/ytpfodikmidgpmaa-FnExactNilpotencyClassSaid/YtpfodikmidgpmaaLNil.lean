/- 'FnExactNilpotencyClass': for all arguments the law answers true. No further condition. -/
import Derived.Test.YtpfodikmidgpmaaRows
import Derived.Test.YtpfodikmidgpmaaTri
import Derived.Test.YtpfodikmidgpmaaSeD
import Derived.Deep.RegionHeld3
import Derived.OpenShut
import Derived.Carry
namespace Go.Proofs.Ytpfodikmidgpmaa.fnExactNilpotencyClass
open Go.ChangeShapes Go.WideShapes Go.ChangeAt Go.RowKit
set_option linter.unusedVariables false

theorem own : ownKnob Try.prog.godebug = none := by kernel_rfl
theorem laidOut : laidOutB Try.prog = true := by kernel_rfl
set_option maxHeartbeats 4000000 in
set_option maxRecDepth 100000 in
theorem walk (w : World) (a0 : Option Addr) (n0 c0 : Nat) (M0 : Nat → Nat) (L0 : Nat → Nat → Nat) (f0 : Nat → Nat → Nat → Int) (hm0 : n0 ≤ maxLen) (hx0 : ∀ i, i < n0 → M0 i ≤ maxLen) (hy0 : ∀ i, i < n0 → ∀ j, j < M0 i → L0 i j ≤ maxLen) (r0 : RdT w a0 n0 M0 L0 f0) :
    Calls Try.prog 9 #[.agg #[.slice a0 n0 c0]] w fun e w' => e = .returned (.bool true) ∧ Below w.heap.size w w' := by
  have R0 := Lib.hid r0
  clear r0
  have X0 := Lib.hid hx0
  clear hx0
  have Y0 := Lib.hid hy0
  clear hy0
  obtain ⟨wb, hwb⟩ : ∃ x, x = w.alloc (.cells #[.slice a0 n0 c0] 24) := ⟨_, rfl⟩
  have HWB := Lib.hid (show Below w.heap.size w wb by rw [hwb]; exact ((Below.refl w.heap.size w).alloc (by exact Nat.le_refl _) _))
  have EB0 := Lib.hid (show wb.cell? ⟨w.heap.size, 0, none⟩ = some (.slice a0 n0 c0) by rw [hwb]; exact cell_box _ _ _)
  have LB0 := Lib.hid (show w.heap.size < wb.heap.size by rw [hwb]; simp; try omega)
  have WBE := Lib.hid hwb
  clear hwb
  have R0 := Lib.hid (R0.out.below HWB.out (Nat.le_refl _))
  obtain ⟨v0, hv0⟩ : ∃ v, v = szLeft n0 (cnt M0 L0) (1048576 : Int) := ⟨_, rfl⟩
  have S0 : Hid (∀ u, Below wb.heap.size wb u → Calls Try.prog 14 #[.agg #[.slice a0 n0 c0], .int .i64 1048576] u fun e w' => e = .returned (.int .i64 v0) ∧ Below wb.heap.size wb w') := Lib.hid fun u hu => by
    rw [hv0]; exact (szRing_f a0 n0 c0 M0 L0 f0 _ u (R0.out.below hu (Nat.le_refl _)) hm0 X0.out Y0.out (by omega) (by omega)).mono fun _ _ h => ⟨h.1, hu.trans (h.2.mono hu.size)⟩
  have V0 := Lib.hid hv0
  clear hv0
  by_cases hs0 : v0 < 0
  · have hds0 : decide (v0 < 0) = true := by simp; omega
    go_enter Try.func9, Try.ntmps9
    go_wp2_with fail
    rw [← WBE.out]
    refine (S0.out _ (Below.refl _ _)).mono ?_
    rintro e z0 ⟨rfl, hz0⟩
    have ZB0 := Lib.hid hz0
    clear hz0
    go_wp2_with fail
    go_ret
    exact ⟨rfl, HWB.out.trans ((ZB0.out).mono HWB.out.size)⟩
  have hds0 : decide (v0 < 0) = false := by simp; omega
  have hz0 := szLeft_pos (n := n0) (L := (cnt M0 L0)) (l := (1048576 : Int)) (by rw [← V0.out]; exact hs0)
  rw [← V0.out] at hz0
  obtain ⟨hza0, hzb0⟩ := hz0
  have B0 := Lib.hid (show n0 ≤ 1048576 ∧ pre (cnt M0 L0) n0 ≤ 1048576 from ⟨by omega, by omega⟩)
  have hb0 : 0 ≤ v0 ∧ v0 ≤ 1048576 := ⟨by omega, by omega⟩
  have Q0 := Lib.hid (show ∀ i, i < n0 → M0 i ≤ 1048576 from fun i hi => Nat.le_trans (Nat.le_add_right _ _) (Nat.le_trans (pre_at (cnt M0 L0) hi) B0.out.2))
  have Y0 := Lib.hid (show ∀ i, i < n0 → ∀ j, j < M0 i → L0 i j ≤ 1048576 from fun i hi j hj => Nat.le_trans (pre_at (L0 i) hj) (Nat.le_trans (Nat.le_add_left _ _) (Nat.le_trans (pre_at (cnt M0 L0) hi) B0.out.2)))
  have pair : ∃ (vv cd : Int), (∀ (x0 : Option Addr) (y0 : Nat) (u : World), RdT u x0 n0 M0 L0 f0 → Calls Try.prog 35 #[.agg #[.slice x0 n0 y0]] u (IntRes u vv cd)) ∧ (∀ (x0 : Option Addr) (y0 : Nat) (u : World), RdT u x0 n0 M0 L0 f0 → Calls Try.prog 36 #[.agg #[.slice x0 n0 y0]] u (IntRes u vv cd)) := by
    refine ⟨_, _, fun x0 y0 u z0 => specNil_f x0 n0 y0 M0 L0 f0 u z0 B0.out.1 Q0.out Y0.out, fun x0 y0 u z0 => implNil_f x0 n0 y0 M0 L0 f0 u z0 B0.out.1 Q0.out Y0.out⟩
  obtain ⟨vv, cd, hS, hI⟩ := pair
  have HS := Lib.hid hS
  have HI := Lib.hid hI
  clear hS hI
  have hcd : (cd != cd) = false := by simp
  have hvv : (vv != vv) = false := by simp
  go_enter Try.func9, Try.ntmps9
  go_wp2_with fail
  rw [← WBE.out]
  refine (S0.out _ (Below.refl _ _)).mono ?_
  rintro e z0 ⟨rfl, hz0⟩
  have ZB0 := Lib.hid hz0
  clear hz0
  have eB0 := ZB0.out.cell (p := ⟨w.heap.size, 0, none⟩) LB0.out
  rw [EB0.out] at eB0
  go_wp2_with fail
  clear eB0
  refine (toRing_f _ _ _ M0 L0 f0 _ (R0.out.below ZB0.out (Nat.le_refl _)) B0.out.1 Q0.out Y0.out).mono ?_
  rintro e w1 ⟨loC0, bC0, rfl, s1, s2, q, b⟩
  have C0 := Lib.hid q
  have S1C0 := Lib.hid s1
  have ZC0 := Lib.hid b.size
  have BB := Lib.hid b
  clear b q s1 s2
  have Tw1 := Lib.hid (ZB0.out.trans ((BB.out).mono ZB0.out.size))
  clear BB
  go_wp2_with fail
  refine (HS.out _ _ _ (C0.out.rd)).mono ?_
  rintro e w2 ⟨rfl, b⟩
  have BB := Lib.hid b
  clear b
  have Tw2 := Lib.hid (Tw1.out.trans ((BB.out).mono Tw1.out.size))
  clear BB
  clear C0
  have eB0 := Tw2.out.cell (p := ⟨w.heap.size, 0, none⟩) LB0.out
  rw [EB0.out] at eB0
  go_wp2_with fail
  clear eB0
  refine (toRing_f _ _ _ M0 L0 f0 _ (R0.out.below Tw2.out (Nat.le_refl _)) B0.out.1 Q0.out Y0.out).mono ?_
  rintro e w3 ⟨loD0, bD0, rfl, s1, s2, q, b⟩
  have D0 := Lib.hid q
  have S1D0 := Lib.hid s1
  have ZD0 := Lib.hid b.size
  have BB := Lib.hid b
  clear b q s1 s2
  have Tw3 := Lib.hid (Tw2.out.trans ((BB.out).mono Tw2.out.size))
  have SZw3 := Lib.hid (show w2.heap.size ≤ w3.heap.size from (BB.out).size)
  clear BB
  go_wp2_with fail
  obtain ⟨xD0, hwx⟩ : ∃ x, x = w3.alloc (.cells #[.slice (some ⟨bD0, 0, none⟩) n0 n0] 28) := ⟨_, rfl⟩
  rw [← hwx]
  have BB := Lib.hid (show Below w3.heap.size w3 xD0 by rw [hwx]; exact below_alloc _ _)
  have kx := Lib.hid (show xD0.cell? ⟨w3.heap.size, 0, none⟩ = some (.slice (some ⟨bD0, 0, none⟩) n0 n0) by rw [hwx]; exact cell_box _ _ _)
  have lx := Lib.hid (show w3.heap.size < xD0.heap.size by rw [hwx]; simp)
  clear hwx
  have TxD0 := Lib.hid (Tw3.out.trans ((BB.out).mono Tw3.out.size))
  have D0 := Lib.hid (D0.out.below (BB.out) (Nat.le_refl _))
  have SZxD0 := Lib.hid (show w3.heap.size ≤ xD0.heap.size from (BB.out).size)
  have KXD0 := kx
  have LXD0 := lx
  clear kx lx BB
  have LYD0 := Lib.hid (show w3.heap.size < xD0.heap.size from LXD0.out)
  refine (HI.out _ _ _ (D0.out.rd)).mono ?_
  rintro e w4 ⟨rfl, b⟩
  have BB := Lib.hid b
  clear b
  have Tw4 := Lib.hid (TxD0.out.trans ((BB.out).mono TxD0.out.size))
  have KXD0 := Lib.hid (((BB.out).cell (p := ⟨w3.heap.size, 0, none⟩) LXD0.out).trans KXD0.out)
  have LXD0 := Lib.hid (Nat.lt_of_lt_of_le LXD0.out (BB.out).size)
  have D0 := Lib.hid (D0.out.below (BB.out) (Nat.le_refl _))
  have SZw4 := Lib.hid (show xD0.heap.size ≤ w4.heap.size from (BB.out).size)
  clear BB
  have eB0 := Tw4.out.cell (p := ⟨w.heap.size, 0, none⟩) LB0.out
  rw [EB0.out] at eB0
  have eXD0 := KXD0.out
  go_wp2_with fail
  go_region_held3 (fun u => u.cell? ⟨w.heap.size, 0, none⟩ = some (.slice a0 n0 c0) ∧ u.cell? ⟨w3.heap.size, 0, none⟩ = some (.slice (some ⟨bD0, 0, none⟩) n0 n0)) (first | exact ⟨eB0, eXD0⟩ | exact KA.out | exact KC.out) (first | (go_at_call 16; refine (toRing_f _ _ _ M0 L0 f0 _ (R0.out.below (by first | exact Tw4.out.drew | exact Tw4.out) (Nat.le_refl _)) B0.out.1 Q0.out Y0.out).mono ?_; rintro e w5 ⟨loE, bE, rfl, s1, s2, q, b⟩; have BB := Lib.hid (show Below w4.heap.size w4 w5 from ⟨b.os, b.tape, b.output, b.size, b.block⟩); have EE := Lib.hid q; have DE := Lib.hid (D0.out.below BB.out (Nat.le_refl _)); have KA := Lib.hid (show w5.cell? ⟨w.heap.size, 0, none⟩ = some (.slice a0 n0 c0) ∧ w5.cell? ⟨w3.heap.size, 0, none⟩ = some (.slice (some ⟨bD0, 0, none⟩) n0 n0) from ⟨(BB.out.cell (p := ⟨w.heap.size, 0, none⟩) (by have := Tw4.out.size; have := LB0.out; show w.heap.size < _; omega)).trans eB0, (BB.out.cell (p := ⟨w3.heap.size, 0, none⟩) (by have := LXD0.out; show w3.heap.size < _; omega)).trans eXD0⟩); clear q b s1 s2) | (go_at_call 18; refine (eqRing_f _ _ _ _ _ _ _ _ _ DE.out.rd EE.out.rd (Nat.le_trans B0.out.1 (by omega)) (fun i hi => Nat.le_trans (Q0.out i hi) (by omega)) (fun i hi j hj => Nat.le_trans (Y0.out i hi j hj) (by omega))).mono ?_; rintro e w6 ⟨rfl, b⟩; have BC := Lib.hid (BB.out.trans (b.mono BB.out.size)); have KC := Lib.hid (show w6.cell? ⟨w.heap.size, 0, none⟩ = some (.slice a0 n0 c0) ∧ w6.cell? ⟨w3.heap.size, 0, none⟩ = some (.slice (some ⟨bD0, 0, none⟩) n0 n0) from ⟨(BC.out.cell (p := ⟨w.heap.size, 0, none⟩) (by have := Tw4.out.size; have := LB0.out; show w.heap.size < _; omega)).trans eB0, (BC.out.cell (p := ⟨w3.heap.size, 0, none⟩) (by have := LXD0.out; show w3.heap.size < _; omega)).trans eXD0⟩); clear b))
  clear eB0 eXD0
  have Tw6 := Lib.hid (Tw4.out.trans ((BC.out).mono Tw4.out.size))
  have KXD0 := Lib.hid (((BC.out).cell (p := ⟨w3.heap.size, 0, none⟩) LXD0.out).trans KXD0.out)
  have LXD0 := Lib.hid (Nat.lt_of_lt_of_le LXD0.out (BC.out).size)
  have D0 := Lib.hid (D0.out.below (BC.out) (Nat.le_refl _))
  clear BC BB EE DE KA KC
  go_wp2_with fail
  go_ret
  exact ⟨rfl, HWB.out.trans (Tw6.out.mono HWB.out.size)⟩

set_option maxRecDepth 100000 in
theorem lifted (os : Os) (started : os.Started) (H : Type) (enc : TypeId × Value → H) :
    ReturnsInHanded {} Try.checked os 9 .any (Rows.fnExactNilpotencyClassSpec.pre6 enc Try.prog Try.f9 Rows.fnExactNilpotencyClassRow.domain false) (Rows.fnExactNilpotencyClassSpec.post enc Try.prog Try.f9 false true false false) := by
  refine returnsInHanded_of_change (C := Try.checked) own started (by kernel_rfl) Try.func9
    (ChangeSpec.witness6 (enc := enc) (C := Try.checked) false ⟨#[], #[.agg #[.slice none 0 0]], []⟩ 8 (by kernel_rfl) (by kernel_rfl) (by kernel_rfl) (by kernel_rfl)) ?_
  intro W base args ds gs before hval0 hW hcnd _
  have hval : ∀ (j : Nat) t v, Try.f9.params[j]? = some t → args[j]? = some v → Value.okWide Try.prog W .any base t v := hval0
  have hW' := hW
  obtain ⟨p, q, hA0, hV, rfl, hfz, hnd⟩ := hW
  have hA : DataW.TrodAll enc Try.prog W 0 (fun _ => true) true Try.f9.params.toList args.toList ds p := hA0
  rw [Try.params9] at hA hval
  obtain ⟨v0, vs0, d0, ds0, p0, q0, hargs, rfl, rfl, h0, t0⟩ := trodAll_cons hA
  obtain ⟨rfl, rfl, rfl⟩ := trodAll_nil t0
  obtain rfl : args = #[v0] := by cases args; simp_all
  obtain ⟨rfl, rfl⟩ := trodVars_none hV
  obtain ⟨a0, n0, c0, rfl, hm0, M0, L0, f0, hx0, hy0, r0⟩ := RdRing_of_trod (hval 0 24 v0 rfl rfl) h0
  clear hA0 hval0
  refine (walk W a0 n0 c0 M0 L0 f0 hm0 hx0 hy0 r0).mono fun e W' ⟨he, hg⟩ => ?_
  subst he
  refine ⟨_, rfl, _, _, _, [], (p0 ++ []), [], hW', ?_, ?_, rfl, hg.frame _, fun h => by cases h⟩
  · exact (trodAll_cons_mk (shut_bool Try.underlying4 _) trodAll_mk0)
  · exact (trodAll_cons_mk (Below.trod laidOut (by kernel_rfl) (of_decide_eq_true (by kernel_rfl)) h0 hg (fun x hx => hW'.lt x (by simp [hx]))) trodAll_mk0)

theorem over : Rows.fnExactNilpotencyClassRow.holds Try.pinned (OpenSpec.ofChange Rows.fnExactNilpotencyClassSpec) :=
  OpenClaim.holds_of_wide 9 Try.f9 rfl rfl rfl rfl rfl rfl rfl ⟨rfl, rfl, rfl, rfl, rfl⟩ rfl rfl rfl rfl rfl (by kernel_rfl) Try.func9 (by kernel_rfl)
    (of_decide_eq_true (by kernel_rfl)) (by unfold Func.isWrapper; first | (rw [if_pos (by decide +kernel)]; kernel_rfl) | (rw [if_neg (by decide +kernel)]; exact ⟨rfl, rfl⟩))
    (fun os started H enc _ => lifted os started H enc)

theorem proved : Rows.FnExactNilpotencyClassSaid :=
  over
end Go.Proofs.Ytpfodikmidgpmaa.fnExactNilpotencyClass
