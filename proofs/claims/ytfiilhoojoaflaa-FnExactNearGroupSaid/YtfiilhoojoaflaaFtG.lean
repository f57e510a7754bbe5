/- Group rings, of both. -/
import Derived.Test.YtfiilhoojoaflaaFsA
import Derived.Test.YtfiilhoojoaflaaFtA
import Derived.Test.YtfiilhoojoaflaaFgB
import Derived.Test.YtfiilhoojoaflaaFrG
namespace Go.Proofs.Ytfiilhoojoaflaa
open Go.RowKit
set_option linter.unusedSimpArgs false
set_option linter.unusedVariables false
theorem gN_le (n : Nat) (o : Nat → Int) : gN n o ≤ 17 := by
  unfold gN
  cases n with
  | zero => show (1 : Int).toNat ≤ 17; decide
  | succ n =>
    have : rkO o (n + 1) ≤ 17 := by show min _ 17 ≤ (17 : Int); omega
    omega
theorem cdG_zero {n : Nat} {o : Nat → Int} (h : cdG n o = 0) : ordB n o = true := by
  unfold cdG at h
  cases hb : ordB n o
  · rw [hb] at h; cases h
  · rfl
theorem cdG_wf (n : Nat) (o : Nat → Int) : (Lit.int .i64 (cdG n o)).wf = true := by unfold cdG; split <;> rfl
set_option maxRecDepth 100000 in
set_option maxHeartbeats 1000000 in
theorem argc_group (a : Option Addr) (n c : Nat) (o : Nat → Int) (w : World) (h : RdR w a n o) (hn : n ≤ 1048576) : Calls Try.prog 77 #[.iface 60 (.agg #[.slice a n c])] w fun e w' => e = .returned (.int .i64 (cdG n o)) ∧ Below w.heap.size w w' := by
  have HO := Lib.hid (fun u (hu : Below w.heap.size w u) => hasOrders_f a n c o u (h.below hu (Nat.le_refl _)) (by omega))
  clear h
  have t0 := ta_group (.agg #[.slice a n c])
  cases hb : ordB n o
  · rw [hb] at HO
    have HF := Lib.hid (show cdG n o = 1 by unfold cdG; rw [hb]; rfl)
    go_enter Try.func77, Try.ntmps77
    go_wp2_with fail
    refine (HO.out _ (by go_grown)).mono ?_
    rintro e w1 ⟨rfl, hb1⟩
    have HB1 := Lib.hid ((below_alloc w _).trans (hb1.mono (by simp)))
    clear hb1
    go_wp2_with fail
    go_ret
    exact ⟨by rw [HF.out] <;> rfl, HB1.out⟩
  · rw [hb] at HO
    have HF := Lib.hid (show cdG n o = 0 by unfold cdG; rw [hb]; rfl)
    go_enter Try.func77, Try.ntmps77
    go_wp2_with fail
    refine (HO.out _ (by go_grown)).mono ?_
    rintro e w1 ⟨rfl, hb1⟩
    have HB1 := Lib.hid ((below_alloc w _).trans (hb1.mono (by simp)))
    clear hb1
    go_wp2_with fail
    go_ret
    exact ⟨by rw [HF.out] <;> rfl, HB1.out⟩
set_option maxRecDepth 100000 in
set_option maxHeartbeats 1000000 in
theorem implGrp_f (a : Option Addr) (n c : Nat) (o : Nat → Int) (w : World) (h : RdR w a n o) (hn : n ≤ 1048576) : Calls Try.prog 23 #[.slice a n c] w (RingRes w (rnkF (cdG n o) (gN n o) (grT n o)) (fun _ => gN n o) (fun _ _ => gN n o) (grT n o) (codF (cdG n o) (gN n o) (grT n o))) := by
  have HRo := Lib.hid (fun u (hu : Below w.heap.size w u) => rof_group (.agg #[.slice a n c]) (cdG n o) (gN n o) (grT n o) u (fun u' hu' => argc_group a n c o u' (h.below (hu.trans (hu'.mono hu.size)) (Nat.le_refl _)) hn)
    (fun hc u' hu' => group_rank a n c o u' (h.below (hu.trans (hu'.mono hu.size)) (Nat.le_refl _)) (ordB_t (cdG_zero hc)).2 (by omega))
    (fun hc hb u' i j hu' hi hj => (group_product a n c o (gN n o) i j u' (h.below (hu.trans (hu'.mono hu.size)) (Nat.le_refl _)) (ordB_t (cdG_zero hc)).2 ((gN_eq (ordB_t (cdG_zero hc)).2).2.2.2.2 hb) hb hn hi hj).mono fun _ _ ⟨g, h1, h2, h3, h4⟩ => ⟨g, gN n o, h1, Nat.le_refl _, by unfold maxLen; omega, h2, h3, h4⟩)
    (by have := gN_le n o; omega) (cdG_wf n o))
  have HGo := Lib.hid (fun u => groupOf_f a n c u)
  obtain ⟨W, hW, hW0, hWs, hKR⟩ := res_start w
  have HW0 := Lib.hid hW0
  have HWs := Lib.hid hWs
  have KR := Lib.hid hKR
  have HWe := Lib.hid hW
  clear hW hW0 hWs hKR h
  generalize rnkF (cdG n o) (gN n o) (grT n o) = rk at *
  generalize codF (cdG n o) (gN n o) (grT n o) = cd at *
  go_enter Try.func23, Try.ntmps23
  go_wp2_with fail
  rw [← HWe.out]
  refine (HGo.out _).mono ?_
  rintro e w1 ⟨rfl, hb1⟩
  have HB1 := Lib.hid (HW0.out.trans (hb1.mono HW0.out.size))
  have KR1 := Lib.hid (RowB.below KR.out hb1 (by rw [HWs.out]; omega))
  have HL1 := Lib.hid (show w.heap.size + 1 ≤ w1.heap.size by have := hb1.size; rw [HWs.out] at this; exact this)
  clear hb1
  go_wp2_with fail
  refine (HRo.out _ HB1.out).mono ?_
  rintro e w2 ⟨a', c', rfl, ho, hb2⟩
  have HOw := Lib.hid ho
  have HB2 := Lib.hid hb2
  have hr := RowB.below KR1.out hb2 (by have := HL1.out; omega)
  obtain ⟨e1, e2, e3⟩ := res_cells hr (.slice a' rk c')
  clear ho hb2 hr
  go_wp2_with fail
  refine bodyPost_ret (v := .tuple #[.agg #[.slice a' rk c'], .int .i64 cd]) (by simp [results, Try.results23, go_sem, e3]) rfl ?_
  exact ringRes_pass HB1.out (Nat.le_refl _) (by have := HL1.out; omega) HOw.out HB2.out _
theorem implGrp_f_rows (n : Nat) (o : Nat → Int) : rnkF (cdG n o) (gN n o) (grT n o) ≤ 64 := by
  have := (codF_size (code := cdG n o) (n := gN n o) (f := grT n o)).1; omega
theorem implGrp_f_cols (n : Nat) (o : Nat → Int) : ∀ i, i < rnkF (cdG n o) (gN n o) (grT n o) → gN n o ≤ 64 := fun _ _ => by have := gN_le n o; omega
theorem implGrp_f_deep (n : Nat) (o : Nat → Int) : ∀ i, i < rnkF (cdG n o) (gN n o) (grT n o) → ∀ j, j < gN n o → gN n o ≤ 64 := fun _ _ _ _ => by have := gN_le n o; omega
end Go.Proofs.Ytfiilhoojoaflaa
