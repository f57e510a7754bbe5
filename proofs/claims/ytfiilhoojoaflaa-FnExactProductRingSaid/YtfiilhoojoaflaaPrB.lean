/- Products of rings, of both. -/
import Derived.Test.YtfiilhoojoaflaaPrA
import Derived.Test.YtfiilhoojoaflaaFrP
import Derived.Test.YtfiilhoojoaflaaRgH
import Derived.Test.YtfiilhoojoaflaaRgF
namespace Go.Proofs.Ytfiilhoojoaflaa
open Go.RowKit
set_option linter.unusedSimpArgs false
set_option linter.unusedVariables false
def cdP (b : Bool) : Int := if b = true then 0 else 1
def nP (b : Bool) (n1 n2 : Nat) : Nat := if b = true then n1 * n2 else 1
theorem cdP_zero {b : Bool} (h : cdP b = 0) : b = true := by
  cases b
  · cases h
  · rfl
theorem cdP_wf (b : Bool) : (Lit.int .i64 (cdP b)).wf = true := by cases b <;> rfl
set_option maxRecDepth 100000 in
set_option maxHeartbeats 1000000 in
theorem argc_prod (a1 : Option Addr) (n1 c1 : Nat) (M1 : Nat → Nat) (L1 : Nat → Nat → Nat) (f1 : Nat → Nat → Nat → Int) (a2 : Option Addr) (n2 c2 : Nat) (M2 : Nat → Nat) (L2 : Nat → Nat → Nat) (f2 : Nat → Nat → Nat → Int) (w : World) (h1 : RdT w a1 n1 M1 L1 f1) (hn1 : n1 ≤ 1048576) (hM1 : ∀ i, i < n1 → M1 i ≤ 1048576) (hL1 : ∀ i, i < n1 → ∀ j, j < M1 i → L1 i j ≤ 1048576) (h2 : RdT w a2 n2 M2 L2 f2) (hn2 : n2 ≤ 1048576) (hM2 : ∀ i, i < n2 → M2 i ≤ 1048576) (hL2 : ∀ i, i < n2 → ∀ j, j < M2 i → L2 i j ≤ 1048576) :
    Calls Try.prog 77 #[.iface 75 (.agg #[.slice a1 n1 c1, .slice a2 n2 c2])] w fun e w' => e = .returned (.int .i64 (cdP (ringB n1 M1 L1 f1 && ringB n2 M2 L2 f2))) ∧ Below w.heap.size w w' := by
  have HI1 := Lib.hid (fun u (hu : Below w.heap.size w u) => implIsRing_f a1 n1 c1 M1 L1 f1 u (h1.below hu (Nat.le_refl _)) hn1 hM1 hL1)
  have HI2 := Lib.hid (fun u (hu : Below w.heap.size w u) => implIsRing_f a2 n2 c2 M2 L2 f2 u (h2.below hu (Nat.le_refl _)) hn2 hM2 hL2)
  clear h1 hM1 hL1 h2 hM2 hL2
  have t0 := ta_ringProduct_group (.agg #[.slice a1 n1 c1, .slice a2 n2 c2]); have t1 := ta_ringProduct_nearGroup (.agg #[.slice a1 n1 c1, .slice a2 n2 c2]); have t2 := ta_ringProduct_dihedralGroup (.agg #[.slice a1 n1 c1, .slice a2 n2 c2]); have t3 := ta_ringProduct_dihedral (.agg #[.slice a1 n1 c1, .slice a2 n2 c2]); have t4 := ta_ringProduct_spins (.agg #[.slice a1 n1 c1, .slice a2 n2 c2]); have t5 := ta_ringProduct_evenSpins (.agg #[.slice a1 n1 c1, .slice a2 n2 c2]); have t6 := ta_ringProduct (.agg #[.slice a1 n1 c1, .slice a2 n2 c2])
  have HB0 := Lib.hid (below_alloc w (.cells #[.slice a1 n1 c1, .slice a2 n2 c2] 75))
  have KW := Lib.hid (cells_twoP w (.slice a1 n1 c1) (.slice a2 n2 c2) 75)
  cases hb1 : ringB n1 M1 L1 f1
  · rw [hb1] at HI1
    clear hb1
    go_enter Try.func77, Try.ntmps77
    go_wp2_with fail
    refine (HI1.out _ HB0.out).mono ?_
    rintro e w1 ⟨rfl, hb⟩
    have HB1 := Lib.hid (HB0.out.trans (hb.mono HB0.out.size))
    clear hb
    go_wp2_with fail
    go_ret
    exact ⟨rfl, HB1.out⟩
  · rw [hb1] at HI1
    clear hb1
    cases hb2 : ringB n2 M2 L2 f2
    all_goals
      rw [hb2] at HI2
      clear hb2
      go_enter Try.func77, Try.ntmps77
      go_wp2_with fail
      refine (HI1.out _ HB0.out).mono ?_
      rintro e w1 ⟨rfl, hb⟩
      have HB1 := Lib.hid (HB0.out.trans (hb.mono HB0.out.size))
      have k1 := (hb.cell (p := ⟨w.heap.size, 0, none⟩) (by simp)).trans KW.out.1
      have k2 := (hb.cell (p := ⟨w.heap.size, 1, none⟩) (by simp)).trans KW.out.2
      clear hb
      go_wp2_with fail
      refine (HI2.out _ HB1.out).mono ?_
      rintro e w2 ⟨rfl, hb⟩
      have HB2 := Lib.hid (HB1.out.trans (hb.mono HB1.out.size))
      clear hb
      go_wp2_with fail
      go_ret
      exact ⟨rfl, HB2.out⟩
set_option maxRecDepth 100000 in
set_option maxHeartbeats 1000000 in
theorem implPrd_f (a1 : Option Addr) (n1 c1 : Nat) (M1 : Nat → Nat) (L1 : Nat → Nat → Nat) (f1 : Nat → Nat → Nat → Int) (a2 : Option Addr) (n2 c2 : Nat) (M2 : Nat → Nat) (L2 : Nat → Nat → Nat) (f2 : Nat → Nat → Nat → Int) (w : World) (h1 : RdT w a1 n1 M1 L1 f1) (hn1 : n1 ≤ 1048576) (hM1 : ∀ i, i < n1 → M1 i ≤ 1048576) (hL1 : ∀ i, i < n1 → ∀ j, j < M1 i → L1 i j ≤ 1048576) (h2 : RdT w a2 n2 M2 L2 f2) (hn2 : n2 ≤ 1048576) (hM2 : ∀ i, i < n2 → M2 i ≤ 1048576) (hL2 : ∀ i, i < n2 → ∀ j, j < M2 i → L2 i j ≤ 1048576) :
    Calls Try.prog 38 #[.agg #[.slice a1 n1 c1], .agg #[.slice a2 n2 c2]] w (RingRes w (rnkF (cdP (ringB n1 M1 L1 f1 && ringB n2 M2 L2 f2)) (nP (ringB n1 M1 L1 f1 && ringB n2 M2 L2 f2) n1 n2) (prF n2 f1 f2)) (fun _ => nP (ringB n1 M1 L1 f1 && ringB n2 M2 L2 f2) n1 n2) (fun _ _ => nP (ringB n1 M1 L1 f1 && ringB n2 M2 L2 f2) n1 n2) (prF n2 f1 f2) (codF (cdP (ringB n1 M1 L1 f1 && ringB n2 M2 L2 f2)) (nP (ringB n1 M1 L1 f1 && ringB n2 M2 L2 f2) n1 n2) (prF n2 f1 f2))) := by
  have HRo := Lib.hid (fun u (hu : Below w.heap.size w u) => rof_ringProduct (.agg #[.slice a1 n1 c1, .slice a2 n2 c2]) (cdP (ringB n1 M1 L1 f1 && ringB n2 M2 L2 f2)) (nP (ringB n1 M1 L1 f1 && ringB n2 M2 L2 f2) n1 n2) (prF n2 f1 f2) u
    (fun u' hu' => argc_prod a1 n1 c1 M1 L1 f1 a2 n2 c2 M2 L2 f2 u' (h1.below (hu.trans (hu'.mono hu.size)) (Nat.le_refl _)) hn1 hM1 hL1 (h2.below (hu.trans (hu'.mono hu.size)) (Nat.le_refl _)) hn2 hM2 hL2)
    (fun hc u' hu' => by
      have hb := cdP_zero hc
      obtain ⟨r1, r2⟩ := Bool.and_eq_true_iff.1 hb
      obtain ⟨_, p16, _, _, _, _, _, _, _, _, _, _, _, _⟩ := ring_open h1 r1
      obtain ⟨_, q16, _, _, _, _, _, _, _, _, _, _, _, _⟩ := ring_open h2 r2
      rw [show nP (ringB n1 M1 L1 f1 && ringB n2 M2 L2 f2) n1 n2 = n1 * n2 from if_pos hb]
      exact prod_rank a1 a2 n1 c1 n2 c2 u' (by omega) (by omega))
    (fun hc hb16 u' i j hu' hi hj => by
      have hb := cdP_zero hc
      obtain ⟨r1, r2⟩ := Bool.and_eq_true_iff.1 hb
      obtain ⟨p0, p16, pf, _, b1, o1, B1, O1, C1, BB1, OO1, CC1, ha1, hat1⟩ := ring_open h1 r1
      obtain ⟨q0, q16, qf, _, b2, o2, B2, O2, C2, BB2, OO2, CC2, ha2, hat2⟩ := ring_open h2 r2
      have hN : nP (ringB n1 M1 L1 f1 && ringB n2 M2 L2 f2) n1 n2 = n1 * n2 := if_pos hb
      rw [hN] at hi hj ⊢
      subst ha1
      subst ha2
      have hb0 := hu.trans (hu'.mono hu.size)
      exact prod_product b1 o1 n1 c1 B1 O1 C1 BB1 OO1 CC1 f1 b2 o2 n2 c2 B2 O2 C2 BB2 OO2 CC2 f2 i j u' (hat1.below hb0) (hat2.below hb0) q0 p16 q16 pf qf hi hj)
    (by
      unfold nP
      split
      · rename_i hb
        obtain ⟨r1, r2⟩ := Bool.and_eq_true_iff.1 hb
        obtain ⟨_, p16, _, _, _, _, _, _, _, _, _, _, _, _⟩ := ring_open h1 r1
        obtain ⟨_, q16, _, _, _, _, _, _, _, _, _, _, _, _⟩ := ring_open h2 r2
        have := Nat.mul_le_mul p16 q16
        omega
      · omega)
    (cdP_wf _))
  obtain ⟨W, hW⟩ : ∃ W, W = ((w.alloc (.cells #[.slice a1 n1 c1] 29)).alloc (.cells #[.slice a2 n2 c2] 29)).alloc (.cells #[.slice none 0 0] 29) := ⟨_, rfl⟩
  have HW0 := Lib.hid (show Below w.heap.size w W by rw [hW]; exact (((Below.refl _ _).alloc (Nat.le_refl _) _).alloc (by simp) _).alloc (by simp; omega) _)
  have HWs := Lib.hid (show W.heap.size = w.heap.size + 3 by rw [hW]; simp)
  have K1 := Lib.hid (show W.cell? ⟨w.heap.size, 0, none⟩ = some (.slice a1 n1 c1) by rw [hW, World.cell?_alloc_lt _ _ _ (by simp; omega), World.cell?_alloc_lt _ _ _ (by simp)]; exact cell_box _ _ _)
  have K2 := Lib.hid (show W.cell? ⟨w.heap.size + 1, 0, none⟩ = some (.slice a2 n2 c2) by
    rw [hW, World.cell?_alloc_lt _ _ _ (by simp)]
    have := cell_box (w.alloc (.cells #[.slice a1 n1 c1] 29)) (.slice a2 n2 c2) 29
    simp only [World.size_alloc] at this
    exact this)
  have KR := Lib.hid (show RowB W 29 (w.heap.size + 1 + 1) 1 (fun _ => .slice none 0 0) by
    rw [hW]
    have := row_one ((w.alloc (.cells #[.slice a1 n1 c1] 29)).alloc (.cells #[.slice a2 n2 c2] 29)) (.slice none 0 0) 29
    simp only [World.size_alloc] at this
    exact this)
  have HWe := Lib.hid hW
  clear hW h1 hM1 hL1 h2 hM2 hL2
  generalize rnkF (cdP (ringB n1 M1 L1 f1 && ringB n2 M2 L2 f2)) (nP (ringB n1 M1 L1 f1 && ringB n2 M2 L2 f2) n1 n2) (prF n2 f1 f2) = rk at *
  generalize codF (cdP (ringB n1 M1 L1 f1 && ringB n2 M2 L2 f2)) (nP (ringB n1 M1 L1 f1 && ringB n2 M2 L2 f2) n1 n2) (prF n2 f1 f2) = cd at *
  generalize (ringB n1 M1 L1 f1 && ringB n2 M2 L2 f2) = bb at *
  go_enter Try.func38, Try.ntmps38
  go_wp2_with fail
  rw [← HWe.out]
  refine (HRo.out _ HW0.out).mono ?_
  rintro e w2 ⟨a, c, rfl, ho, hb2⟩
  have HOw := Lib.hid ho
  have HB2 := Lib.hid hb2
  have hr := RowB.below KR.out hb2 (by rw [HWs.out]; omega)
  obtain ⟨e1, e2, e3⟩ := res_cells hr (.slice a rk c)
  clear ho hb2 hr
  go_wp2_with fail
  refine bodyPost_ret (v := .tuple #[.agg #[.slice a rk c], .int .i64 cd]) (by simp [results, Try.results38, go_sem, e3]) rfl ?_
  exact ringRes_pass HW0.out (by omega) (by rw [HWs.out]; omega) HOw.out HB2.out _
theorem implPrd_f_rows (n1 : Nat) (M1 : Nat → Nat) (L1 : Nat → Nat → Nat) (f1 : Nat → Nat → Nat → Int) (n2 : Nat) (M2 : Nat → Nat) (L2 : Nat → Nat → Nat) (f2 : Nat → Nat → Nat → Int) : rnkF (cdP (ringB n1 M1 L1 f1 && ringB n2 M2 L2 f2)) (nP (ringB n1 M1 L1 f1 && ringB n2 M2 L2 f2) n1 n2) (prF n2 f1 f2) ≤ 64 := by
  have := (codF_size (code := cdP (ringB n1 M1 L1 f1 && ringB n2 M2 L2 f2)) (n := nP (ringB n1 M1 L1 f1 && ringB n2 M2 L2 f2) n1 n2) (f := prF n2 f1 f2)).1; omega
theorem implPrd_f_cols (n1 : Nat) (M1 : Nat → Nat) (L1 : Nat → Nat → Nat) (f1 : Nat → Nat → Nat → Int) (n2 : Nat) (M2 : Nat → Nat) (L2 : Nat → Nat → Nat) (f2 : Nat → Nat → Nat → Int) : ∀ i, i < rnkF (cdP (ringB n1 M1 L1 f1 && ringB n2 M2 L2 f2)) (nP (ringB n1 M1 L1 f1 && ringB n2 M2 L2 f2) n1 n2) (prF n2 f1 f2) → nP (ringB n1 M1 L1 f1 && ringB n2 M2 L2 f2) n1 n2 ≤ 64 := fun i hi => by
  have := (codF_size (code := cdP (ringB n1 M1 L1 f1 && ringB n2 M2 L2 f2)) (n := nP (ringB n1 M1 L1 f1 && ringB n2 M2 L2 f2) n1 n2) (f := prF n2 f1 f2)).2 (by omega); omega
theorem implPrd_f_deep (n1 : Nat) (M1 : Nat → Nat) (L1 : Nat → Nat → Nat) (f1 : Nat → Nat → Nat → Int) (n2 : Nat) (M2 : Nat → Nat) (L2 : Nat → Nat → Nat) (f2 : Nat → Nat → Nat → Int) : ∀ i, i < rnkF (cdP (ringB n1 M1 L1 f1 && ringB n2 M2 L2 f2)) (nP (ringB n1 M1 L1 f1 && ringB n2 M2 L2 f2) n1 n2) (prF n2 f1 f2) → ∀ j, j < nP (ringB n1 M1 L1 f1 && ringB n2 M2 L2 f2) n1 n2 → nP (ringB n1 M1 L1 f1 && ringB n2 M2 L2 f2) n1 n2 ≤ 64 := fun i hi _ _ => by
  have := (codF_size (code := cdP (ringB n1 M1 L1 f1 && ringB n2 M2 L2 f2)) (n := nP (ringB n1 M1 L1 f1 && ringB n2 M2 L2 f2) n1 n2) (f := prF n2 f1 f2)).2 (by omega); omega
set_option maxRecDepth 100000 in
set_option maxHeartbeats 2000000 in
theorem specPrd_f (a1 : Option Addr) (n1 c1 : Nat) (M1 : Nat → Nat) (L1 : Nat → Nat → Nat) (f1 : Nat → Nat → Nat → Int) (a2 : Option Addr) (n2 c2 : Nat) (M2 : Nat → Nat) (L2 : Nat → Nat → Nat) (f2 : Nat → Nat → Nat → Int) (w : World) (h1 : RdT w a1 n1 M1 L1 f1) (hn1 : n1 ≤ 1048576) (hM1 : ∀ i, i < n1 → M1 i ≤ 1048576) (hL1 : ∀ i, i < n1 → ∀ j, j < M1 i → L1 i j ≤ 1048576) (h2 : RdT w a2 n2 M2 L2 f2) (hn2 : n2 ≤ 1048576) (hM2 : ∀ i, i < n2 → M2 i ≤ 1048576) (hL2 : ∀ i, i < n2 → ∀ j, j < M2 i → L2 i j ≤ 1048576) :
    Calls Try.prog 37 #[.agg #[.slice a1 n1 c1], .agg #[.slice a2 n2 c2]] w (RingRes w (rnkF (cdP (ringB n1 M1 L1 f1 && ringB n2 M2 L2 f2)) (nP (ringB n1 M1 L1 f1 && ringB n2 M2 L2 f2) n1 n2) (prF n2 f1 f2)) (fun _ => nP (ringB n1 M1 L1 f1 && ringB n2 M2 L2 f2) n1 n2) (fun _ _ => nP (ringB n1 M1 L1 f1 && ringB n2 M2 L2 f2) n1 n2) (prF n2 f1 f2) (codF (cdP (ringB n1 M1 L1 f1 && ringB n2 M2 L2 f2)) (nP (ringB n1 M1 L1 f1 && ringB n2 M2 L2 f2) n1 n2) (prF n2 f1 f2))) := by
  have HI1 := Lib.hid (fun u (hu : Below w.heap.size w u) => l03Is_f a1 n1 c1 M1 L1 f1 u (h1.below hu (Nat.le_refl _)) hn1 hM1 hL1)
  have HI2 := Lib.hid (fun u (hu : Below w.heap.size w u) => l03Is_f a2 n2 c2 M2 L2 f2 u (h2.below hu (Nat.le_refl _)) hn2 hM2 hL2)
  obtain ⟨W, hW⟩ : ∃ W, W = ((w.alloc (.cells #[.slice a1 n1 c1] 29)).alloc (.cells #[.slice a2 n2 c2] 29)).alloc (.cells #[.slice none 0 0] 29) := ⟨_, rfl⟩
  have HW0 := Lib.hid (show Below w.heap.size w W by rw [hW]; exact (((Below.refl _ _).alloc (Nat.le_refl _) _).alloc (by simp) _).alloc (by simp; omega) _)
  have HWs := Lib.hid (show W.heap.size = w.heap.size + 3 by rw [hW]; simp)
  have K1 := Lib.hid (show W.cell? ⟨w.heap.size, 0, none⟩ = some (.slice a1 n1 c1) by rw [hW, World.cell?_alloc_lt _ _ _ (by simp; omega), World.cell?_alloc_lt _ _ _ (by simp)]; exact cell_box _ _ _)
  have K2 := Lib.hid (show W.cell? ⟨w.heap.size + 1, 0, none⟩ = some (.slice a2 n2 c2) by
    rw [hW, World.cell?_alloc_lt _ _ _ (by simp)]
    have := cell_box (w.alloc (.cells #[.slice a1 n1 c1] 29)) (.slice a2 n2 c2) 29
    simp only [World.size_alloc] at this
    exact this)
  have KR := Lib.hid (show RowB W 29 (w.heap.size + 1 + 1) 1 (fun _ => .slice none 0 0) by
    rw [hW]
    have := row_one ((w.alloc (.cells #[.slice a1 n1 c1] 29)).alloc (.cells #[.slice a2 n2 c2] 29)) (.slice none 0 0) 29
    simp only [World.size_alloc] at this
    exact this)
  have HWe := Lib.hid hW
  clear hW hM1 hL1 hM2 hL2
  cases hb1 : ringB n1 M1 L1 f1
  · rw [hb1] at HI1
    have HF := Lib.hid (codF_arg (code := 1) (n := nP false n1 n2) (f := prF n2 f1 f2) (by decide))
    show Calls Try.prog 37 #[.agg #[.slice a1 n1 c1], .agg #[.slice a2 n2 c2]] w (RingRes w (rnkF 1 (nP false n1 n2) (prF n2 f1 f2)) (fun _ => nP false n1 n2) (fun _ _ => nP false n1 n2) (prF n2 f1 f2) (codF 1 (nP false n1 n2) (prF n2 f1 f2)))
    clear hb1 h1 h2
    go_enter Try.func37, Try.ntmps37
    go_wp2_with fail
    rw [← HWe.out]
    refine (HI1.out _ HW0.out).mono ?_
    rintro e w1 ⟨rfl, hb⟩
    have HX := Lib.hid hb
    clear hb
    have hr := RowB.below KR.out HX.out (by rw [HWs.out]; omega)
    obtain ⟨e1, e2, e3⟩ := res_cells hr (.slice none 0 0)
    clear hr
    go_wp2_with fail
    refine bodyPost_ret (v := .tuple #[.agg #[.slice none 0 0], .int .i64 1]) (by simp [results, Try.results37, go_sem, e3]) rfl ?_
    exact ringRes_none HF.out.2 HF.out.1.symm ((HW0.out.trans (HX.out.mono HW0.out.size)).setCell (by show w.heap.size ≤ w.heap.size + 1 + 1; omega) _)
  cases hb2 : ringB n2 M2 L2 f2
  · rw [hb1] at HI1
    rw [hb2] at HI2
    have HF := Lib.hid (codF_arg (code := 1) (n := nP false n1 n2) (f := prF n2 f1 f2) (by decide))
    show Calls Try.prog 37 #[.agg #[.slice a1 n1 c1], .agg #[.slice a2 n2 c2]] w (RingRes w (rnkF 1 (nP false n1 n2) (prF n2 f1 f2)) (fun _ => nP false n1 n2) (fun _ _ => nP false n1 n2) (prF n2 f1 f2) (codF 1 (nP false n1 n2) (prF n2 f1 f2)))
    clear hb1 h1 h2 hb2
    go_enter Try.func37, Try.ntmps37
    go_wp2_with fail
    rw [← HWe.out]
    refine (HI1.out _ HW0.out).mono ?_
    rintro e w1 ⟨rfl, hb⟩
    have HX1 := Lib.hid hb
    have k2 := (hb.cell (p := ⟨w.heap.size + 1, 0, none⟩) (by rw [HWs.out]; show w.heap.size + 1 < _; omega)).trans K2.out
    clear hb
    go_wp2_with fail
    refine (HI2.out _ (HW0.out.trans (HX1.out.mono HW0.out.size))).mono ?_
    rintro e w2 ⟨rfl, hb⟩
    have HX := Lib.hid (HX1.out.trans (hb.mono HX1.out.size))
    clear hb
    have hr := RowB.below KR.out HX.out (by rw [HWs.out]; omega)
    obtain ⟨e1, e2, e3⟩ := res_cells hr (.slice none 0 0)
    clear hr
    go_wp2_with fail
    refine bodyPost_ret (v := .tuple #[.agg #[.slice none 0 0], .int .i64 1]) (by simp [results, Try.results37, go_sem, e3]) rfl ?_
    exact ringRes_none HF.out.2 HF.out.1.symm ((HW0.out.trans (HX.out.mono HW0.out.size)).setCell (by show w.heap.size ≤ w.heap.size + 1 + 1; omega) _)
  obtain ⟨p0, p16, pf, _, b1, o1, B1, O1, C1, BB1, OO1, CC1, ha1, hat1⟩ := ring_open h1 hb1
  obtain ⟨q0, q16, qf, _, b2, o2, B2, O2, C2, BB2, OO2, CC2, ha2, hat2⟩ := ring_open h2 hb2
  subst ha1
  subst ha2
  rw [hb1] at HI1
  rw [hb2] at HI2
  have hnm : n1 * n2 ≤ 16 * 16 := Nat.mul_le_mul p16 q16
  have hnn : 1 ≤ n1 * n2 := Nat.mul_pos p0 q0
  have hwm : IntKind.i64.wrap ((n1 : Int) * (n2 : Int)) = ((n1 * n2 : Nat) : Int) := by rw [← Int.natCast_mul]; exact IntWalk.i64_in _ (by omega)
  have HPr := Lib.hid (fun u (hu : Below w.heap.size w u) => l06Product_f b1 o1 n1 c1 B1 O1 C1 BB1 OO1 CC1 f1 b2 o2 n2 c2 B2 O2 C2 BB2 OO2 CC2 f2 u (hat1.below hu) (hat2.below hu) q0 (by omega) (fun i j k hi hj hk => by have := pf i j k hi hj hk; omega) (fun i j k hi hj hk => by have := qf i j k hi hj hk; omega))
  show Calls Try.prog 37 #[.agg #[.slice (some ⟨b1, o1, none⟩) n1 c1], .agg #[.slice (some ⟨b2, o2, none⟩) n2 c2]] w (RingRes w (rnkF 0 (n1 * n2) (prF n2 f1 f2)) (fun _ => n1 * n2) (fun _ _ => n1 * n2) (prF n2 f1 f2) (codF 0 (n1 * n2) (prF n2 f1 f2)))
  clear hb1 h1 h2 hb2 hat1 hat2 pf qf
  generalize prF n2 f1 f2 = F at *
  obtain ⟨N, hN⟩ : ∃ N, N = n1 * n2 := ⟨_, rfl⟩
  rw [← hN] at hnm hnn hwm HPr ⊢
  clear hN
  by_cases hbig : 16 < N
  · have HF := Lib.hid (codF_big (n := N) (f := F) hbig)
    clear HPr
    go_enter Try.func37, Try.ntmps37
    go_wp2_with fail
    rw [← HWe.out]
    refine (HI1.out _ HW0.out).mono ?_
    rintro e w1 ⟨rfl, hb⟩
    have HX1 := Lib.hid hb
    have k1 := (hb.cell (p := ⟨w.heap.size, 0, none⟩) (by rw [HWs.out]; show w.heap.size < _; omega)).trans K1.out
    have k2 := (hb.cell (p := ⟨w.heap.size + 1, 0, none⟩) (by rw [HWs.out]; show w.heap.size + 1 < _; omega)).trans K2.out
    have HL1 := Lib.hid (show w.heap.size + 3 ≤ w1.heap.size by have := hb.size; rw [HWs.out] at this; exact this)
    clear hb
    go_wp2_with fail
    refine (HI2.out _ (HW0.out.trans (HX1.out.mono HW0.out.size))).mono ?_
    rintro e w2 ⟨rfl, hb⟩
    have HX := Lib.hid (HX1.out.trans (hb.mono HX1.out.size))
    have k3 := (hb.cell (p := ⟨w.heap.size, 0, none⟩) (by have := HL1.out; show w.heap.size < _; omega)).trans k1
    have k4 := (hb.cell (p := ⟨w.heap.size + 1, 0, none⟩) (by have := HL1.out; show w.heap.size + 1 < _; omega)).trans k2
    clear hb k1 k2
    have hr := RowB.below KR.out HX.out (by rw [HWs.out]; omega)
    obtain ⟨e1, e2, e3⟩ := res_cells hr (.slice none 0 0)
    clear hr
    go_wp2_with fail
    refine bodyPost_ret (v := .tuple #[.agg #[.slice none 0 0], .int .i64 3]) (by simp [results, Try.results37, go_sem, e3]) rfl ?_
    exact ringRes_none HF.out.2 HF.out.1.symm ((HW0.out.trans (HX.out.mono HW0.out.size)).setCell (by show w.heap.size ≤ w.heap.size + 1 + 1; omega) _)
  · go_enter Try.func37, Try.ntmps37
    go_wp2_with fail
    rw [← HWe.out]
    refine (HI1.out _ HW0.out).mono ?_
    rintro e w1 ⟨rfl, hb⟩
    have HX1 := Lib.hid hb
    have k1 := (hb.cell (p := ⟨w.heap.size, 0, none⟩) (by rw [HWs.out]; show w.heap.size < _; omega)).trans K1.out
    have k2 := (hb.cell (p := ⟨w.heap.size + 1, 0, none⟩) (by rw [HWs.out]; show w.heap.size + 1 < _; omega)).trans K2.out
    have HL1 := Lib.hid (show w.heap.size + 3 ≤ w1.heap.size by have := hb.size; rw [HWs.out] at this; exact this)
    clear hb
    go_wp2_with fail
    refine (HI2.out _ (HW0.out.trans (HX1.out.mono HW0.out.size))).mono ?_
    rintro e w2 ⟨rfl, hb⟩
    have HX2 := Lib.hid (HX1.out.trans (hb.mono HX1.out.size))
    have k3 := (hb.cell (p := ⟨w.heap.size, 0, none⟩) (by have := HL1.out; show w.heap.size < _; omega)).trans k1
    have k4 := (hb.cell (p := ⟨w.heap.size + 1, 0, none⟩) (by have := HL1.out; show w.heap.size + 1 < _; omega)).trans k2
    have HL2 := Lib.hid (show w.heap.size + 3 ≤ w2.heap.size by have := hb.size; have := HL1.out; omega)
    clear hb k1 k2
    go_wp2_with fail
    refine (HPr.out _ (HW0.out.trans (HX2.out.mono HW0.out.size))).mono ?_
    rintro e w3 ⟨g, cg, rfl, hcu, hb3⟩
    have HCu := Lib.hid hcu
    have HX := Lib.hid (HX2.out.trans (hb3.mono HX2.out.size))
    have HCb := Lib.hid (l03Cube_f (some ⟨g, 0, none⟩) N cg (fun _ => N) (fun _ _ => N) F w3 hcu.rd (by omega) (fun _ _ => by omega) (fun _ _ _ _ => by omega))
    clear hcu hb3 k3 k4
    cases hcb : cubB N (fun _ => N) (fun _ _ => N) F
    · have HF := Lib.hid (codF_no (n := N) hbig hcb)
      rw [hcb] at HCb
      clear hcb
      go_wp2_with fail
      refine HCb.out.mono ?_
      rintro e w4 ⟨rfl, rfl⟩
      have hr := RowB.below KR.out HX.out (by rw [HWs.out]; omega)
      obtain ⟨e1, e2, e3⟩ := res_cells hr (.slice none 0 0)
      clear hr
      go_wp2_with fail
      refine bodyPost_ret (v := .tuple #[.agg #[.slice none 0 0], .int .i64 3]) (by simp [results, Try.results37, go_sem, e3]) rfl ?_
      exact ringRes_none HF.out.2 HF.out.1.symm ((HW0.out.trans (HX.out.mono HW0.out.size)).setCell (by show w.heap.size ≤ w.heap.size + 1 + 1; omega) _)
    · have HF := Lib.hid (codF_yes (n := N) hbig hcb)
      rw [hcb] at HCb
      clear hcb
      go_wp2_with fail
      refine HCb.out.mono ?_
      rintro e w4 ⟨rfl, rfl⟩
      have hr := RowB.below KR.out HX.out (by rw [HWs.out]; omega)
      obtain ⟨e1, e2, e3⟩ := res_cells hr (.slice (some ⟨g, 0, none⟩) N cg)
      clear hr
      go_wp2_with fail
      refine bodyPost_ret (v := .tuple #[.agg #[.slice (some ⟨g, 0, none⟩) N cg], .int .i64 0]) (by simp [results, Try.results37, go_sem, e3]) rfl ?_
      exact ringRes_put (by omega) (by have := HL2.out; omega) HCu.out (Nat.le_refl _) (HW0.out.trans (HX.out.mono HW0.out.size)) HF.out.2 HF.out.1 _
end Go.Proofs.Ytfiilhoojoaflaa
