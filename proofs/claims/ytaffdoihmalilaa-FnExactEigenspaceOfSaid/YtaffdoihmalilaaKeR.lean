/- KernelBasis of both. -/
import Derived.Test.YtaffdoihmalilaaKes
namespace Go.Proofs.Ytaffdoihmalilaa
open Go.RowKit
set_option linter.unusedSimpArgs false
open Classical in
noncomputable def kerQ (n m : Nat) (A : Mat) : Nat := if h : ∃ q Z, q ≤ m ∧ IsKer n m A q Z then Classical.choose h else 0
open Classical in
noncomputable def kerZ (n m : Nat) (A : Mat) : Mat := if h : ∃ Z, kerQ n m A ≤ m ∧ IsKer n m A (kerQ n m A) Z then Classical.choose h else fun _ _ => 0
theorem ker_eq {n m q : Nat} {A Z : Mat} (hq : q ≤ m) (h : IsKer n m A q Z) : kerQ n m A = q ∧ ∀ i, i < q → ∀ j, j < m → Z i j = kerZ n m A i j := by
  have h1 : ∃ q Z, q ≤ m ∧ IsKer n m A q Z := ⟨q, Z, hq, h⟩
  have h2 : ∃ Z, kerQ n m A ≤ m ∧ IsKer n m A (kerQ n m A) Z := by
    unfold kerQ
    rw [dif_pos h1]
    exact Classical.choose_spec h1
  have h3 : IsKer n m A (kerQ n m A) (kerZ n m A) := by
    have h4 := (Classical.choose_spec h2).2
    unfold kerZ
    rw [dif_pos h2]
    exact h4
  obtain ⟨e, e2⟩ := h.unique h3
  exact ⟨e.symm, e2⟩
theorem kerQ_le (n m : Nat) (A : Mat) : kerQ n m A ≤ m := by
  by_cases h : ∃ q Z, q ≤ m ∧ IsKer n m A q Z
  · unfold kerQ
    rw [dif_pos h]
    obtain ⟨Z, hZ, _⟩ := Classical.choose_spec h
    exact hZ
  · unfold kerQ
    rw [dif_neg h]
    omega
theorem implKer_f (a : Option Addr) (n c : Nat) (L : Nat → Nat) (f : Nat → Nat → Int) (w : World) (h : RdM w a n L f) (hn : n ≤ 1048576) (hL : ∀ i, i < n → L i ≤ 1048576) :
    Calls Try.prog 25 #[.slice a n c] w (TabRes w (nIf (matB n L f) (kerQ n (L 0) (kM f))) (fun _ => L 0) (fun i j => vK (kerZ n (L 0) (kM f) i j)) (cMat (matB n L f))) := by
  cases hm : matB n L f
  · have HE := Lib.hid (readMatrix_no a n c L f w h (by omega) (fun i hi => by have := hL i hi; omega) hm)
    clear h hL hm
    go_enter Try.func25, Try.ntmps25
    go_wp2_with fail
    refine HE.out.mono ?_
    rintro e w' ⟨rfl, rfl⟩
    go_wp2_with fail
    go_ret2
    exact tabRes_err rfl rfl (Below.refl _ _)
  · obtain ⟨d0, d1, d2, d3, d4, d5⟩ := matB_dims hm
    have HE := Lib.hid (readMatrix_yes a n c L f w h hm)
    have D5 := Lib.hid d5
    clear h hL hm d4 d5
    generalize L 0 = m at *
    go_enter Try.func25, Try.ntmps25
    go_wp2_with fail
    refine HE.out.mono ?_
    rintro e w1 ⟨rfl, hM, hB⟩
    have HM := Lib.hid (hM.rd.toK D5.out)
    have HB := Lib.hid hB
    clear hM hB
    go_wp2_with fail
    refine (kernel_f _ n m _ (kM f) _ HM.out d0 d2 (by omega) (by omega)).mono ?_
    rintro e w2 ⟨q, Z, g, rfl, hq, hk, hM2, hB2⟩
    obtain ⟨k1, k2⟩ := ker_eq hq hk
    have HK1 := Lib.hid k1
    have HK2 := Lib.hid k2
    have HM2 := Lib.hid hM2
    have HB2 := Lib.hid (HB.out.trans (hB2.mono HB.out.size))
    clear hM2 hB2 hk k1 k2
    go_wp2_with fail
    refine (integers_f _ q _ (fun _ => m) _ _ HM2.out (by omega) (fun i hi => by omega)).mono ?_
    rintro e w3 ⟨rfl, hM3, hB3, -⟩
    have HM3 := Lib.hid (hM3.congr (g := fun i j => vK (kerZ n m (kM f) i j)) (fun i hi j hj => by rw [HK2.out i hi j hj]))
    have HB3 := Lib.hid (HB2.out.trans (hB3.mono HB2.out.size))
    clear hM3 hB3
    go_wp2_with fail
    go_ret2
    rw [HK1.out]
    exact ⟨_, _, rfl, own_of_matB (HM3.out.mono HB2.out.size), HB3.out⟩
theorem implKer_f_rows (n : Nat) (L : Nat → Nat) (f : Nat → Nat → Int) : nIf (matB n L f) (kerQ n (L 0) (kM f)) ≤ 64 := by
  cases hm : matB n L f
  · show nIf false _ ≤ 64
    unfold nIf; simp
  · obtain ⟨d0, d1, d2, d3, d4, d5⟩ := matB_dims hm
    have := kerQ_le n (L 0) (kM f)
    show nIf true _ ≤ 64
    unfold nIf; simp; omega
theorem implKer_f_cols (n : Nat) (L : Nat → Nat) (f : Nat → Nat → Int) : ∀ i, i < nIf (matB n L f) (kerQ n (L 0) (kM f)) → L 0 ≤ 64 := by
  cases hm : matB n L f
  · intro i hi
    unfold nIf at hi; simp at hi
  · intro i hi
    obtain ⟨d0, d1, d2, d3, d4, d5⟩ := matB_dims hm
    omega
theorem specKer_f (a : Option Addr) (n c : Nat) (L : Nat → Nat) (f : Nat → Nat → Int) (w : World) (h : RdM w a n L f) (hn : n ≤ 1048576) (hL : ∀ i, i < n → L i ≤ 1048576) :
    Calls Try.prog 24 #[.slice a n c] w (TabRes w (nIf (matB n L f) (kerQ n (L 0) (kM f))) (fun _ => L 0) (fun i j => vK (kerZ n (L 0) (kM f) i j)) (cMat (matB n L f))) := by
  have H0 := Lib.hid (l02Is_f a n c L f w h (by omega) (fun i hi => by have := hL i hi; omega))
  cases hm : matB n L f
  · rw [hm] at H0
    clear h hL hm
    go_enter Try.func24, Try.ntmps24
    go_wp2_with fail
    refine H0.out.mono ?_
    rintro e w' ⟨rfl, hd⟩
    have HD := Lib.hid hd
    clear hd
    go_wp2_with fail
    go_ret2
    exact tabRes_err rfl rfl HD.out.below
  · obtain ⟨d0, d1, d2, d3, d4, d5⟩ := matB_dims hm
    have HR := Lib.hid ((h.rect hm).toK d5)
    rw [hm] at H0
    clear h hL hm d4 d5
    generalize L 0 = m at *
    go_enter Try.func24, Try.ntmps24
    go_wp2_with fail
    refine H0.out.mono ?_
    rintro e w1 ⟨rfl, hd⟩
    have HB0 := Lib.hid (hd.below (B := w.heap.size))
    clear hd
    go_wp2_with fail
    refine (l02Kernel_f _ n m _ (kM f) _ (HR.out.below HB0.out (Nat.le_refl _)) d0 d2 (by omega) (by omega)).mono ?_
    rintro e w2 ⟨q, Z, hq, hk, b2, c2, C2, G2, y1, y2, rfl, hM2, hB2⟩
    obtain ⟨k1, k2⟩ := ker_eq hq hk
    have HK1 := Lib.hid k1
    have HM2 := Lib.hid (hM2.congr (g := fun i j => vK (kerZ n m (kM f) i j)) (fun i hi j hj => by rw [k2 i hi j hj]))
    have HB2 := Lib.hid (HB0.out.trans (hB2.mono HB0.out.size))
    clear hM2 hB2 hk k1 k2 y1 y2
    go_wp2_with fail
    go_ret2
    rw [HK1.out]
    exact ⟨_, _, rfl, own_of_matB (HM2.out.mono HB0.out.size), HB2.out⟩
end Go.Proofs.Ytaffdoihmalilaa
