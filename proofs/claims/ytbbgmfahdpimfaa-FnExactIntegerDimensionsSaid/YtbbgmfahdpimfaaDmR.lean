/- IntegerDimensions, IsIntegralRing, WholeDimension, DimensionOfVector: of both. -/
import Derived.Test.YtbbgmfahdpimfaaDmQ
namespace Go.Proofs.Ytbbgmfahdpimfaa
open Go.RowKit
set_option linter.unusedSimpArgs false
def cIn (r d : Bool) : Int := if r then (if d then 0 else 4) else 1
def cDv (r v d : Bool) : Int := if r then (if v then (if d then 0 else 4) else 2) else 1
theorem dm_bd {n : Nat} {f : Nat → Nat → Nat → Int} (R : Rng n f) (h : dmB n f = true) : ∀ k, k < n → 1 ≤ dmZ n f k ∧ dmZ n f k ≤ 16000 := fun k hk => ⟨(dmB_t h k hk).1, dim_le R (dmB_t h) hk⟩
set_option maxRecDepth 100000 in
theorem implIng_f (a : Option Addr) (n c : Nat) (M : Nat → Nat) (L : Nat → Nat → Nat) (f : Nat → Nat → Nat → Int) (w : World) (h : RdT w a n M L f) (hn : n ≤ 1048576) (hM : ∀ i, i < n → M i ≤ 1048576) (hL : ∀ i, i < n → ∀ j, j < M i → L i j ≤ 1048576) :
    Calls Try.prog 35 #[.agg #[.slice a n c]] w (RowRes w (nRg (ringB n M L f && dmB n f) n) (dmZ n f) (cIn (ringB n M L f) (dmB n f))) := by
  have HI := Lib.hid (fun u (hu : Below w.heap.size w u) => implIsRing_f a n c M L f u (h.below hu (Nat.le_refl _)) hn hM hL)
  clear hM hL
  cases hr : ringB n M L f
  · rw [hr] at HI
    clear h hr
    go_enter Try.func35, Try.ntmps35
    go_wp2_with fail
    refine (HI.out _ (below_alloc _ _)).mono ?_
    rintro e w1 ⟨rfl, hb⟩
    have HB := Lib.hid ((below_alloc w (.cells #[.slice a n c] 29)).trans (hb.mono (by simp)))
    have hsz : w.heap.size < w1.heap.size := by have := hb.size; simp at this; omega
    have e0 : w1.cell? ⟨w.heap.size, 0, none⟩ = some (.slice a n c) := by
      rw [hb.cell (p := ⟨w.heap.size, 0, none⟩) (by simp)]; exact cell_box _ _ _
    have E0 := Lib.hid e0
    clear hb
    go_wp2_with fail
    go_ret2
    exact rowRes_none rfl rfl HB.out
  · have HRg := Lib.hid (rng_of hr)
    obtain ⟨h0, h16, hf, hd, b, off, B, O, C, B2, O2, C2, rfl, hat⟩ := ring_open h hr
    have HAt := Lib.hid hat
    rw [hr] at HI
    clear h hd hr hat
    go_enter Try.func35, Try.ntmps35
    go_wp2_with fail
    refine (HI.out _ (below_alloc _ _)).mono ?_
    rintro e w1 ⟨rfl, hb⟩
    have HB := Lib.hid ((below_alloc w (.cells #[.slice (some ⟨b, off, none⟩) n c] 29)).trans (hb.mono (by simp)))
    have hsz : w.heap.size < w1.heap.size := by have := hb.size; simp at this; omega
    have e0 : w1.cell? ⟨w.heap.size, 0, none⟩ = some (.slice (some ⟨b, off, none⟩) n c) := by
      rw [hb.cell (p := ⟨w.heap.size, 0, none⟩) (by simp)]; exact cell_box _ _ _
    have E0 := Lib.hid e0
    clear hb
    go_wp2_with fail
    clear e0
    refine (integerDimensions_f b off n c B O C B2 O2 C2 f _ (HAt.out.below HB.out) HRg.out).mono ?_
    intro e w3 hres
    rcases hres with ⟨hdm, g, cg, rfl, hg, hrow, hb3⟩ | ⟨hdm, y, rfl, hb3⟩
    · have HB3 := Lib.hid (HB.out.trans (hb3.mono HB.out.size))
      have HG := Lib.hid (show w.heap.size ≤ g from Nat.le_trans HB.out.size hg)
      have HQ := Lib.hid hrow
      have HD := Lib.hid hdm
      clear hb3 hg hrow hdm
      go_wp2_with fail
      go_ret2
      rw [HD.out]
      exact ⟨some ⟨g, 0, none⟩, cg, rfl, Or.inr ⟨g, rfl, HG.out, HQ.out⟩, HB3.out⟩
    · have HB3 := Lib.hid (HB.out.trans (hb3.mono HB.out.size))
      have HD := Lib.hid hdm
      clear hb3 hdm
      go_wp2_with fail
      go_ret2
      rw [HD.out]
      exact rowRes_none rfl rfl HB3.out
set_option maxRecDepth 100000 in
theorem implIgr_f (a : Option Addr) (n c : Nat) (M : Nat → Nat) (L : Nat → Nat → Nat) (f : Nat → Nat → Nat → Int) (w : World) (h : RdT w a n M L f) (hn : n ≤ 1048576) (hM : ∀ i, i < n → M i ≤ 1048576) (hL : ∀ i, i < n → ∀ j, j < M i → L i j ≤ 1048576) :
    Calls Try.prog 37 #[.agg #[.slice a n c]] w (BoolCode w (ringB n M L f && dmB n f) (cRg (ringB n M L f))) := by
  have HI := Lib.hid (fun u (hu : Below w.heap.size w u) => implIsRing_f a n c M L f u (h.below hu (Nat.le_refl _)) hn hM hL)
  clear hM hL
  cases hr : ringB n M L f
  · rw [hr] at HI
    clear h hr
    go_enter Try.func37, Try.ntmps37
    go_wp2_with fail
    refine (HI.out _ (below_alloc _ _)).mono ?_
    rintro e w1 ⟨rfl, hb⟩
    have HB := Lib.hid ((below_alloc w (.cells #[.slice a n c] 29)).trans (hb.mono (by simp)))
    have hsz : w.heap.size < w1.heap.size := by have := hb.size; simp at this; omega
    have e0 : w1.cell? ⟨w.heap.size, 0, none⟩ = some (.slice a n c) := by
      rw [hb.cell (p := ⟨w.heap.size, 0, none⟩) (by simp)]; exact cell_box _ _ _
    have E0 := Lib.hid e0
    clear hb
    go_wp2_with fail
    go_ret2
    exact ⟨rfl, HB.out⟩
  · have HRg := Lib.hid (rng_of hr)
    obtain ⟨h0, h16, hf, hd, b, off, B, O, C, B2, O2, C2, rfl, hat⟩ := ring_open h hr
    have HAt := Lib.hid hat
    rw [hr] at HI
    clear h hd hr hat
    go_enter Try.func37, Try.ntmps37
    go_wp2_with fail
    refine (HI.out _ (below_alloc _ _)).mono ?_
    rintro e w1 ⟨rfl, hb⟩
    have HB := Lib.hid ((below_alloc w (.cells #[.slice (some ⟨b, off, none⟩) n c] 29)).trans (hb.mono (by simp)))
    have hsz : w.heap.size < w1.heap.size := by have := hb.size; simp at this; omega
    have e0 : w1.cell? ⟨w.heap.size, 0, none⟩ = some (.slice (some ⟨b, off, none⟩) n c) := by
      rw [hb.cell (p := ⟨w.heap.size, 0, none⟩) (by simp)]; exact cell_box _ _ _
    have E0 := Lib.hid e0
    clear hb
    go_wp2_with fail
    clear e0
    refine (integerDimensions_f b off n c B O C B2 O2 C2 f _ (HAt.out.below HB.out) HRg.out).mono ?_
    intro e w3 hres
    rcases hres with ⟨hdm, g, cg, rfl, hg, hrow, hb3⟩ | ⟨hdm, y, rfl, hb3⟩
    · have HB3 := Lib.hid (HB.out.trans (hb3.mono HB.out.size))
      have HD := Lib.hid hdm
      clear hb3 hg hrow hdm
      go_wp2_with fail
      go_ret2
      exact ⟨by rw [HD.out]; rfl, HB3.out⟩
    · have HB3 := Lib.hid (HB.out.trans (hb3.mono HB.out.size))
      have HD := Lib.hid hdm
      clear hb3 hdm
      go_wp2_with fail
      go_ret2
      exact ⟨by rw [HD.out]; rfl, HB3.out⟩
set_option maxRecDepth 100000 in
theorem specIng_f (a : Option Addr) (n c : Nat) (M : Nat → Nat) (L : Nat → Nat → Nat) (f : Nat → Nat → Nat → Int) (w : World) (h : RdT w a n M L f) (hn : n ≤ 1048576) (hM : ∀ i, i < n → M i ≤ 1048576) (hL : ∀ i, i < n → ∀ j, j < M i → L i j ≤ 1048576) :
    Calls Try.prog 34 #[.agg #[.slice a n c]] w (RowRes w (nRg (ringB n M L f && dmB n f) n) (dmZ n f) (cIn (ringB n M L f) (dmB n f))) := by
  have HI := Lib.hid (fun u (hu : Below w.heap.size w u) => l03Is_f a n c M L f u (h.below hu (Nat.le_refl _)) hn hM hL)
  clear hM hL
  cases hr : ringB n M L f
  · rw [hr] at HI
    clear h hr
    go_enter Try.func34, Try.ntmps34
    go_wp2_with fail
    refine (HI.out _ (below_alloc _ _)).mono ?_
    rintro e w1 ⟨rfl, hb⟩
    have HB := Lib.hid ((below_alloc w (.cells #[.slice a n c] 29)).trans (hb.mono (by simp)))
    have hsz : w.heap.size < w1.heap.size := by have := hb.size; simp at this; omega
    have e0 : w1.cell? ⟨w.heap.size, 0, none⟩ = some (.slice a n c) := by
      rw [hb.cell (p := ⟨w.heap.size, 0, none⟩) (by simp)]; exact cell_box _ _ _
    have E0 := Lib.hid e0
    clear hb
    go_wp2_with fail
    go_ret2
    exact rowRes_none rfl rfl HB.out
  · have HRg := Lib.hid (rng_of hr)
    obtain ⟨h0, h16, hf, hd, b, off, B, O, C, B2, O2, C2, rfl, hat⟩ := ring_open h hr
    have HAt := Lib.hid hat
    rw [hr] at HI
    clear h hd hr hat
    go_enter Try.func34, Try.ntmps34
    go_wp2_with fail
    refine (HI.out _ (below_alloc _ _)).mono ?_
    rintro e w1 ⟨rfl, hb⟩
    have HB := Lib.hid ((below_alloc w (.cells #[.slice (some ⟨b, off, none⟩) n c] 29)).trans (hb.mono (by simp)))
    have hsz : w.heap.size < w1.heap.size := by have := hb.size; simp at this; omega
    have e0 : w1.cell? ⟨w.heap.size, 0, none⟩ = some (.slice (some ⟨b, off, none⟩) n c) := by
      rw [hb.cell (p := ⟨w.heap.size, 0, none⟩) (by simp)]; exact cell_box _ _ _
    have E0 := Lib.hid e0
    clear hb
    go_wp2_with fail
    clear e0
    refine (l04Integers_f b off n c B O C B2 O2 C2 f _ (HAt.out.below HB.out) HRg.out).mono ?_
    intro e w3 hres
    rcases hres with ⟨hdm, g, cg, rfl, hg, hrow, hb3⟩ | ⟨hdm, y, rfl, hb3⟩
    · have HB3 := Lib.hid (HB.out.trans (hb3.mono HB.out.size))
      have HG := Lib.hid (show w.heap.size ≤ g from Nat.le_trans HB.out.size hg)
      have HQ := Lib.hid hrow
      have HD := Lib.hid hdm
      clear hb3 hg hrow hdm
      go_wp2_with fail
      go_ret2
      rw [HD.out]
      exact ⟨some ⟨g, 0, none⟩, cg, rfl, Or.inr ⟨g, rfl, HG.out, HQ.out⟩, HB3.out⟩
    · have HB3 := Lib.hid (HB.out.trans (hb3.mono HB.out.size))
      have HD := Lib.hid hdm
      clear hb3 hdm
      go_wp2_with fail
      go_ret2
      rw [HD.out]
      exact rowRes_none rfl rfl HB3.out
set_option maxRecDepth 100000 in
theorem specIgr_f (a : Option Addr) (n c : Nat) (M : Nat → Nat) (L : Nat → Nat → Nat) (f : Nat → Nat → Nat → Int) (w : World) (h : RdT w a n M L f) (hn : n ≤ 1048576) (hM : ∀ i, i < n → M i ≤ 1048576) (hL : ∀ i, i < n → ∀ j, j < M i → L i j ≤ 1048576) :
    Calls Try.prog 36 #[.agg #[.slice a n c]] w (BoolCode w (ringB n M L f && dmB n f) (cRg (ringB n M L f))) := by
  have HI := Lib.hid (fun u (hu : Below w.heap.size w u) => l03Is_f a n c M L f u (h.below hu (Nat.le_refl _)) hn hM hL)
  clear hM hL
  cases hr : ringB n M L f
  · rw [hr] at HI
    clear h hr
    go_enter Try.func36, Try.ntmps36
    go_wp2_with fail
    refine (HI.out _ (below_alloc _ _)).mono ?_
    rintro e w1 ⟨rfl, hb⟩
    have HB := Lib.hid ((below_alloc w (.cells #[.slice a n c] 29)).trans (hb.mono (by simp)))
    have hsz : w.heap.size < w1.heap.size := by have := hb.size; simp at this; omega
    have e0 : w1.cell? ⟨w.heap.size, 0, none⟩ = some (.slice a n c) := by
      rw [hb.cell (p := ⟨w.heap.size, 0, none⟩) (by simp)]; exact cell_box _ _ _
    have E0 := Lib.hid e0
    clear hb
    go_wp2_with fail
    go_ret2
    exact ⟨rfl, HB.out⟩
  · have HRg := Lib.hid (rng_of hr)
    obtain ⟨h0, h16, hf, hd, b, off, B, O, C, B2, O2, C2, rfl, hat⟩ := ring_open h hr
    have HAt := Lib.hid hat
    rw [hr] at HI
    clear h hd hr hat
    go_enter Try.func36, Try.ntmps36
    go_wp2_with fail
    refine (HI.out _ (below_alloc _ _)).mono ?_
    rintro e w1 ⟨rfl, hb⟩
    have HB := Lib.hid ((below_alloc w (.cells #[.slice (some ⟨b, off, none⟩) n c] 29)).trans (hb.mono (by simp)))
    have hsz : w.heap.size < w1.heap.size := by have := hb.size; simp at this; omega
    have e0 : w1.cell? ⟨w.heap.size, 0, none⟩ = some (.slice (some ⟨b, off, none⟩) n c) := by
      rw [hb.cell (p := ⟨w.heap.size, 0, none⟩) (by simp)]; exact cell_box _ _ _
    have E0 := Lib.hid e0
    clear hb
    go_wp2_with fail
    clear e0
    refine (l04Integers_f b off n c B O C B2 O2 C2 f _ (HAt.out.below HB.out) HRg.out).mono ?_
    intro e w3 hres
    rcases hres with ⟨hdm, g, cg, rfl, hg, hrow, hb3⟩ | ⟨hdm, y, rfl, hb3⟩
    · have HB3 := Lib.hid (HB.out.trans (hb3.mono HB.out.size))
      have HD := Lib.hid hdm
      clear hb3 hg hrow hdm
      go_wp2_with fail
      go_ret2
      exact ⟨by rw [HD.out]; rfl, HB3.out⟩
    · have HB3 := Lib.hid (HB.out.trans (hb3.mono HB.out.size))
      have HD := Lib.hid hdm
      clear hb3 hdm
      go_wp2_with fail
      go_ret2
      exact ⟨by rw [HD.out]; rfl, HB3.out⟩
theorem implIng_f_rows (n : Nat) (M : Nat → Nat) (L : Nat → Nat → Nat) (f : Nat → Nat → Nat → Int) : nRg (ringB n M L f && dmB n f) n ≤ 64 := by
  cases hr : ringB n M L f
  · simp [nRg]
  · have := (cub_num (ringB_t hr).1).2.1
    unfold nRg; split <;> omega
/-- the whole dimension -/
noncomputable def whZ (n : Nat) (f : Nat → Nat → Nat → Int) : Int := sumZ (fun k => dmZ n f k * dmZ n f k) n
theorem wh_bd {n : Nat} {f : Nat → Nat → Nat → Int} (R : Rng n f) (h : dmB n f = true) : ∀ k, k < n → 0 ≤ dmZ n f k * dmZ n f k ∧ dmZ n f k * dmZ n f k ≤ 256000000 := fun k hk => by
  have a := dm_bd R h k hk
  have : dmZ n f k * dmZ n f k ≤ 16000 * 16000 := Int.mul_le_mul a.2 a.2 (by omega) (by omega)
  exact ⟨Int.mul_nonneg (by omega) (by omega), by omega⟩
noncomputable def whV (g : Bool) (n : Nat) (f : Nat → Nat → Nat → Int) : Int := if g then whZ n f else 0
set_option maxRecDepth 100000 in
theorem implWhl_f (a : Option Addr) (n c : Nat) (M : Nat → Nat) (L : Nat → Nat → Nat) (f : Nat → Nat → Nat → Int) (w : World) (h : RdT w a n M L f) (hn : n ≤ 1048576) (hM : ∀ i, i < n → M i ≤ 1048576) (hL : ∀ i, i < n → ∀ j, j < M i → L i j ≤ 1048576) :
    Calls Try.prog 39 #[.agg #[.slice a n c]] w (IntRes w (whV (ringB n M L f && dmB n f) n f) (cIn (ringB n M L f) (dmB n f))) := by
  have HI := Lib.hid (fun u (hu : Below w.heap.size w u) => implIng_f a n c M L f u (h.below hu (Nat.le_refl _)) hn hM hL)
  clear hM hL
  have HW0 := Lib.hid (below_alloc w (.cells #[.slice a n c] 29))
  cases hg : (ringB n M L f && dmB n f)
  · have hc : (cIn (ringB n M L f) (dmB n f) != 0) = true := by
      cases hr : ringB n M L f
      · rfl
      · rw [hr, Bool.true_and] at hg
        rw [hg]; rfl
    rw [hg] at HI
    obtain ⟨cd, hcd⟩ : ∃ x, x = cIn (ringB n M L f) (dmB n f) := ⟨_, rfl⟩
    rw [← hcd] at HI hc ⊢
    clear h hg hcd
    go_enter Try.func39, Try.ntmps39
    go_wp2_with fail
    refine (HI.out _ HW0.out).mono ?_
    rintro e w1 ⟨ga, gc, rfl, q, hb⟩
    have HB := Lib.hid (HW0.out.trans (hb.mono (by simp)))
    clear hb q
    go_wp2_with fail
    go_ret2
    exact ⟨rfl, HB.out⟩
  · have hr : ringB n M L f = true := by cases hr : ringB n M L f <;> simp_all
    have hdm : dmB n f = true := by cases hd : dmB n f <;> simp_all
    have R := rng_of hr
    have h0 := R.h0
    have h16 := R.h16
    have HBd := Lib.hid (wh_bd R hdm)
    rw [hg, show cIn (ringB n M L f) (dmB n f) = 0 by rw [hr, hdm]; rfl, show nRg true n = n from rfl] at HI
    rw [show cIn (ringB n M L f) (dmB n f) = 0 by rw [hr, hdm]; rfl, show whV true n f = whZ n f from rfl]
    clear h hg hr hdm R
    go_enter Try.func39, Try.ntmps39
    go_wp2_with fail
    refine (HI.out _ HW0.out).mono ?_
    rintro e w1 ⟨ga, gc, rfl, q, hb⟩
    have HB := Lib.hid (HW0.out.trans (hb.mono (by simp)))
    have HR := Lib.hid q.rd
    clear hb q
    go_wp2_with fail
    refine (sumOfProducts_f ga ga n gc gc (dmZ n f) (dmZ n f) w1 HR.out HR.out h0 (by omega) (fun k hk => by have := HBd.out k hk; omega)).mono ?_
    rintro e w2 ⟨rfl, rfl⟩
    go_wp2_with fail
    go_ret2
    exact ⟨rfl, HB.out⟩
set_option maxRecDepth 100000 in
theorem specWhl_f (a : Option Addr) (n c : Nat) (M : Nat → Nat) (L : Nat → Nat → Nat) (f : Nat → Nat → Nat → Int) (w : World) (h : RdT w a n M L f) (hn : n ≤ 1048576) (hM : ∀ i, i < n → M i ≤ 1048576) (hL : ∀ i, i < n → ∀ j, j < M i → L i j ≤ 1048576) :
    Calls Try.prog 38 #[.agg #[.slice a n c]] w (IntRes w (whV (ringB n M L f && dmB n f) n f) (cIn (ringB n M L f) (dmB n f))) := by
  have HI := Lib.hid (fun u (hu : Below w.heap.size w u) => specIng_f a n c M L f u (h.below hu (Nat.le_refl _)) hn hM hL)
  clear hM hL
  have HW0 := Lib.hid (below_alloc w (.cells #[.slice a n c] 29))
  cases hg : (ringB n M L f && dmB n f)
  · have hc : (cIn (ringB n M L f) (dmB n f) != 0) = true := by
      cases hr : ringB n M L f
      · rfl
      · rw [hr, Bool.true_and] at hg
        rw [hg]; rfl
    rw [hg] at HI
    obtain ⟨cd, hcd⟩ : ∃ x, x = cIn (ringB n M L f) (dmB n f) := ⟨_, rfl⟩
    rw [← hcd] at HI hc ⊢
    clear h hg hcd
    go_enter Try.func38, Try.ntmps38
    go_wp2_with fail
    refine (HI.out _ HW0.out).mono ?_
    rintro e w1 ⟨ga, gc, rfl, q, hb⟩
    have HB := Lib.hid (HW0.out.trans (hb.mono (by simp)))
    clear hb q
    go_wp2_with fail
    go_ret2
    exact ⟨rfl, HB.out⟩
  · have hr : ringB n M L f = true := by cases hr : ringB n M L f <;> simp_all
    have hdm : dmB n f = true := by cases hd : dmB n f <;> simp_all
    have R := rng_of hr
    have h0 := R.h0
    have h16 := R.h16
    have HBd := Lib.hid (wh_bd R hdm)
    rw [hg, show cIn (ringB n M L f) (dmB n f) = 0 by rw [hr, hdm]; rfl, show nRg true n = n from rfl] at HI
    rw [show cIn (ringB n M L f) (dmB n f) = 0 by rw [hr, hdm]; rfl, show whV true n f = whZ n f from rfl]
    clear h hg hr hdm R
    go_enter Try.func38, Try.ntmps38
    go_wp2_with fail
    refine (HI.out _ HW0.out).mono ?_
    rintro e w1 ⟨ga, gc, rfl, q, hb⟩
    have HB := Lib.hid (HW0.out.trans (hb.mono (by simp)))
    have HR := Lib.hid q.rd
    clear hb q
    go_wp2_with fail
    go_loopw [6, 7] (fun y x wr => ∃ k : Nat, k ≤ n ∧ x = .int .i64 k ∧ y = .int .i64 (sumZ (fun k => dmZ n f k * dmZ n f k) k) ∧ Drawn w1 wr) (fun _ x _ => n - (intOf x).toNat)
    case atStart => exact ⟨0, by omega, rfl, rfl, Drawn.refl _⟩
    case round =>
      obtain ⟨k, hk, rfl, rfl, hdr⟩ := hrel
      have HD := Lib.hid hdr
      clear hdr
      by_cases hkn : k < n
      · obtain ⟨b1, o1, rfl, hb1, hc1⟩ := HR.out.open h0
        have e1 : wr.cell? ⟨b1, o1 + k, none⟩ = some (.int .i64 (dmZ n f k)) := (HD.out.cell _).trans (hc1 k hkn)
        have q1 := HBd.out k hkn
        have q2 := sumZ_bd (g := fun k => dmZ n f k * dmZ n f k) (n := k) (B := 256000000) (fun l hl => HBd.out l (by omega))
        have HN := Lib.hid (show sumZ (fun k => dmZ n f k * dmZ n f k) (k + 1) = sumZ (fun k => dmZ n f k * dmZ n f k) k + dmZ n f k * dmZ n f k from rfl)
        clear hc1
        generalize sumZ (fun k => dmZ n f k * dmZ n f k) k = S at *
        generalize dmZ n f k = dk at *
        have f1 : IntKind.i64.wrap (dk * dk) = dk * dk := IntWalk.i64_in _ (by omega)
        have f2 : IntKind.i64.wrap (S + dk * dk) = S + dk * dk := IntWalk.i64_in _ (by omega)
        clear q1 q2
        go_wp2_with fail
        go_still_tail 11, (by kernel_rfl)
        change wpList _ _ _ _ _ wr.drew
        go_wp2_with fail
        exact ⟨⟨k + 1, by omega, by go_num, by rw [HN.out], HD.out.more 1⟩, by simp [intOf]; omega⟩
      · obtain rfl : k = n := by omega
        go_wp2_with fail
        go_ret2
        exact ⟨rfl, HB.out.trans HD.out.below⟩
/-- the dimension of a vector -/
noncomputable def dvZ (n : Nat) (f : Nat → Nat → Nat → Int) (x : Nat → Int) : Int := sumZ (fun k => x k * dmZ n f k) n
noncomputable def dvV (g : Bool) (n : Nat) (f : Nat → Nat → Nat → Int) (x : Nat → Int) : Int := if g then dvZ n f x else 0
theorem dv_bd {n : Nat} {f : Nat → Nat → Nat → Int} (R : Rng n f) (h : dmB n f = true) {x : Nat → Int} (hx : ∀ k, k < n → 0 ≤ x k ∧ x k ≤ 1000000) : ∀ k, k < n → 0 ≤ x k * dmZ n f k ∧ x k * dmZ n f k ≤ 16000000000 := fun k hk => by
  have a := dm_bd R h k hk
  have b := hx k hk
  have : x k * dmZ n f k ≤ 1000000 * 16000 := Int.mul_le_mul b.2 a.2 (by omega) (by omega)
  exact ⟨Int.mul_nonneg (by omega) (by omega), by omega⟩
set_option maxHeartbeats 4000000 in
set_option maxRecDepth 100000 in
theorem implDov_f (a : Option Addr) (n c : Nat) (M : Nat → Nat) (L : Nat → Nat → Nat) (f : Nat → Nat → Nat → Int) (a1 : Option Addr) (m1 c1 : Nat) (x : Nat → Int) (w : World) (h : RdT w a n M L f) (hn : n ≤ 1048576) (hM : ∀ i, i < n → M i ≤ 1048576) (hL : ∀ i, i < n → ∀ j, j < M i → L i j ≤ 1048576) (h1 : RdR w a1 m1 x) (hm1 : m1 ≤ 1048576) :
    Calls Try.prog 41 #[.agg #[.slice a n c], .slice a1 m1 c1] w (IntRes w (dvV (ringB n M L f && (lwB m1 n 1000000 x && dmB n f)) n f x) (cDv (ringB n M L f) (lwB m1 n 1000000 x) (dmB n f))) := by
  have HI := Lib.hid (fun u (hu : Below w.heap.size w u) => implIsRing_f a n c M L f u (h.below hu (Nat.le_refl _)) hn hM hL)
  have H1 := Lib.hid h1
  have HV := Lib.hid (fun a u (hu : Below w.heap.size w u) => isVector_f a n c a1 m1 c1 x u (h1.below hu (Nat.le_refl _)) (by omega))
  clear hM hL h1
  cases hr : ringB n M L f
  · rw [hr] at HI
    clear h hr HV
    go_enter Try.func41, Try.ntmps41
    go_wp2_with fail
    refine (HI.out _ (below_alloc _ _)).mono ?_
    rintro e w1 ⟨rfl, hb⟩
    have HB := Lib.hid ((below_alloc w (.cells #[.slice a n c] 29)).trans (hb.mono (by simp)))
    have hsz : w.heap.size < w1.heap.size := by have := hb.size; simp at this; omega
    have e0 : w1.cell? ⟨w.heap.size, 0, none⟩ = some (.slice a n c) := by
      rw [hb.cell (p := ⟨w.heap.size, 0, none⟩) (by simp)]; exact cell_box _ _ _
    have E0 := Lib.hid e0
    clear hb
    go_wp2_with fail
    go_ret2
    exact ⟨rfl, HB.out⟩
  · have HRg := Lib.hid (rng_of hr)
    obtain ⟨h0, h16, hf, hd, b, off, B, O, C, B2, O2, C2, rfl, hat⟩ := ring_open h hr
    rw [hr] at HI
    clear h hd hr
    cases hv : lwB m1 n 1000000 x
    · rw [hv] at HV
      clear hat hf hv
      go_enter Try.func41, Try.ntmps41
      go_wp2_with fail
      refine (HI.out _ (below_alloc _ _)).mono ?_
      rintro e w1 ⟨rfl, hb⟩
      have HB := Lib.hid ((below_alloc w (.cells #[.slice (some ⟨b, off, none⟩) n c] 29)).trans (hb.mono (by simp)))
      have hsz : w.heap.size < w1.heap.size := by have := hb.size; simp at this; omega
      have e0 : w1.cell? ⟨w.heap.size, 0, none⟩ = some (.slice (some ⟨b, off, none⟩) n c) := by
        rw [hb.cell (p := ⟨w.heap.size, 0, none⟩) (by simp)]; exact cell_box _ _ _
      have E0 := Lib.hid e0
      clear hb
      go_wp2_with fail
      clear e0
      refine (HV.out _ _ HB.out).mono ?_
      rintro e w2 ⟨rfl, hb2⟩
      have HB2 := Lib.hid (HB.out.trans (hb2.mono HB.out.size))
      clear hb2
      go_wp2_with fail
      go_ret2
      exact ⟨rfl, HB2.out⟩
    · rw [hv] at HV
      have hvt : m1 = n ∧ inZ 1000000 x n = true := by simpa [lwB] using hv
      obtain ⟨rfl, hx⟩ := hvt
      have HAt := Lib.hid hat
      have HXb := Lib.hid (inZ_t hx)
      rw [Bool.true_and, Bool.true_and]
      clear hat hf hv hx
      go_enter Try.func41, Try.ntmps41
      go_wp2_with fail
      refine (HI.out _ (below_alloc _ _)).mono ?_
      rintro e w1 ⟨rfl, hb⟩
      have HB := Lib.hid ((below_alloc w (.cells #[.slice (some ⟨b, off, none⟩) m1 c] 29)).trans (hb.mono (by simp)))
      have hsz : w.heap.size < w1.heap.size := by have := hb.size; simp at this; omega
      have e0 : w1.cell? ⟨w.heap.size, 0, none⟩ = some (.slice (some ⟨b, off, none⟩) m1 c) := by
        rw [hb.cell (p := ⟨w.heap.size, 0, none⟩) (by simp)]; exact cell_box _ _ _
      have E0 := Lib.hid e0
      clear hb
      go_wp2_with fail
      clear e0
      refine (HV.out _ _ HB.out).mono ?_
      rintro e w2 ⟨rfl, hb2⟩
      have HB2 := Lib.hid (HB.out.trans (hb2.mono HB.out.size))
      have e0 : w2.cell? ⟨w.heap.size, 0, none⟩ = some (.slice (some ⟨b, off, none⟩) m1 c) := by
        rw [hb2.cell (p := ⟨w.heap.size, 0, none⟩) hsz]; exact E0.out
      clear hb2
      go_wp2_with fail
      clear e0
      refine (integerDimensions_f b off m1 c B O C B2 O2 C2 f _ (HAt.out.below HB2.out) HRg.out).mono ?_
      intro e w3 hres
      rcases hres with ⟨hdm, g, cg, rfl, hg, hrow, hb3⟩ | ⟨hdm, y, rfl, hb3⟩
      · have HB3 := Lib.hid (HB2.out.trans (hb3.mono HB2.out.size))
        have HQ := Lib.hid hrow
        have HBd := Lib.hid (dv_bd HRg.out hdm HXb.out)
        have HX3 := Lib.hid (H1.out.below HB3.out (Nat.le_refl _))
        have HDm := Lib.hid hdm
        clear hb3 hg hrow hdm
        go_wp2_with fail
        refine (sumOfProducts_f a1 (some ⟨g, 0, none⟩) m1 c1 cg x (dmZ m1 f) w3 HX3.out (RowI.rd HQ.out) h0 (by omega) (fun k hk => by have := HBd.out k hk; omega)).mono ?_
        rintro e w4 ⟨rfl, rfl⟩
        go_wp2_with fail
        go_ret2
        exact ⟨by rw [HDm.out]; rfl, HB3.out⟩
      · have HB3 := Lib.hid (HB2.out.trans (hb3.mono HB2.out.size))
        have HDm := Lib.hid hdm
        clear hb3 hdm
        go_wp2_with fail
        go_ret2
        exact ⟨by rw [HDm.out]; rfl, HB3.out⟩
set_option maxHeartbeats 4000000 in
set_option maxRecDepth 100000 in
theorem specDov_f (a : Option Addr) (n c : Nat) (M : Nat → Nat) (L : Nat → Nat → Nat) (f : Nat → Nat → Nat → Int) (a1 : Option Addr) (m1 c1 : Nat) (x : Nat → Int) (w : World) (h : RdT w a n M L f) (hn : n ≤ 1048576) (hM : ∀ i, i < n → M i ≤ 1048576) (hL : ∀ i, i < n → ∀ j, j < M i → L i j ≤ 1048576) (h1 : RdR w a1 m1 x) (hm1 : m1 ≤ 1048576) :
    Calls Try.prog 40 #[.agg #[.slice a n c], .slice a1 m1 c1] w (IntRes w (dvV (ringB n M L f && (lwB m1 n 1000000 x && dmB n f)) n f x) (cDv (ringB n M L f) (lwB m1 n 1000000 x) (dmB n f))) := by
  have HI := Lib.hid (fun u (hu : Below w.heap.size w u) => l03Is_f a n c M L f u (h.below hu (Nat.le_refl _)) hn hM hL)
  have H1 := Lib.hid h1
  have HV := Lib.hid (fun a u (hu : Below w.heap.size w u) => l03Vector_f a n c a1 m1 c1 x u (h1.below hu (Nat.le_refl _)) (by omega))
  clear hM hL h1
  cases hr : ringB n M L f
  · rw [hr] at HI
    clear h hr HV
    go_enter Try.func40, Try.ntmps40
    go_wp2_with fail
    refine (HI.out _ (below_alloc _ _)).mono ?_
    rintro e w1 ⟨rfl, hb⟩
    have HB := Lib.hid ((below_alloc w (.cells #[.slice a n c] 29)).trans (hb.mono (by simp)))
    have hsz : w.heap.size < w1.heap.size := by have := hb.size; simp at this; omega
    have e0 : w1.cell? ⟨w.heap.size, 0, none⟩ = some (.slice a n c) := by
      rw [hb.cell (p := ⟨w.heap.size, 0, none⟩) (by simp)]; exact cell_box _ _ _
    have E0 := Lib.hid e0
    clear hb
    go_wp2_with fail
    go_ret2
    exact ⟨rfl, HB.out⟩
  · have HRg := Lib.hid (rng_of hr)
    obtain ⟨h0, h16, hf, hd, b, off, B, O, C, B2, O2, C2, rfl, hat⟩ := ring_open h hr
    rw [hr] at HI
    clear h hd hr
    cases hv : lwB m1 n 1000000 x
    · rw [hv] at HV
      clear hat hf hv
      go_enter Try.func40, Try.ntmps40
      go_wp2_with fail
      refine (HI.out _ (below_alloc _ _)).mono ?_
      rintro e w1 ⟨rfl, hb⟩
      have HB := Lib.hid ((below_alloc w (.cells #[.slice (some ⟨b, off, none⟩) n c] 29)).trans (hb.mono (by simp)))
      have hsz : w.heap.size < w1.heap.size := by have := hb.size; simp at this; omega
      have e0 : w1.cell? ⟨w.heap.size, 0, none⟩ = some (.slice (some ⟨b, off, none⟩) n c) := by
        rw [hb.cell (p := ⟨w.heap.size, 0, none⟩) (by simp)]; exact cell_box _ _ _
      have E0 := Lib.hid e0
      clear hb
      go_wp2_with fail
      clear e0
      refine (HV.out _ _ HB.out).mono ?_
      rintro e w2 ⟨rfl, hb2⟩
      have HB2 := Lib.hid (HB.out.trans (hb2.mono HB.out.size))
      clear hb2
      go_wp2_with fail
      go_ret2
      exact ⟨rfl, HB2.out⟩
    · rw [hv] at HV
      have hvt : m1 = n ∧ inZ 1000000 x n = true := by simpa [lwB] using hv
      obtain ⟨rfl, hx⟩ := hvt
      have HAt := Lib.hid hat
      have HXb := Lib.hid (inZ_t hx)
      rw [Bool.true_and, Bool.true_and]
      clear hat hf hv hx
      go_enter Try.func40, Try.ntmps40
      go_wp2_with fail
      refine (HI.out _ (below_alloc _ _)).mono ?_
      rintro e w1 ⟨rfl, hb⟩
      have HB := Lib.hid ((below_alloc w (.cells #[.slice (some ⟨b, off, none⟩) m1 c] 29)).trans (hb.mono (by simp)))
      have hsz : w.heap.size < w1.heap.size := by have := hb.size; simp at this; omega
      have e0 : w1.cell? ⟨w.heap.size, 0, none⟩ = some (.slice (some ⟨b, off, none⟩) m1 c) := by
        rw [hb.cell (p := ⟨w.heap.size, 0, none⟩) (by simp)]; exact cell_box _ _ _
      have E0 := Lib.hid e0
      clear hb
      go_wp2_with fail
      clear e0
      refine (HV.out _ _ HB.out).mono ?_
      rintro e w2 ⟨rfl, hb2⟩
      have HB2 := Lib.hid (HB.out.trans (hb2.mono HB.out.size))
      have e0 : w2.cell? ⟨w.heap.size, 0, none⟩ = some (.slice (some ⟨b, off, none⟩) m1 c) := by
        rw [hb2.cell (p := ⟨w.heap.size, 0, none⟩) hsz]; exact E0.out
      clear hb2
      go_wp2_with fail
      clear e0
      refine (l04Integers_f b off m1 c B O C B2 O2 C2 f _ (HAt.out.below HB2.out) HRg.out).mono ?_
      intro e w3 hres
      rcases hres with ⟨hdm, g, cg, rfl, hg, hrow, hb3⟩ | ⟨hdm, y, rfl, hb3⟩
      · have HB3 := Lib.hid (HB2.out.trans (hb3.mono HB2.out.size))
        have HQ := Lib.hid hrow
        have HBd := Lib.hid (dv_bd HRg.out hdm HXb.out)
        have HX3 := Lib.hid (H1.out.below HB3.out (Nat.le_refl _))
        have HDm := Lib.hid hdm
        clear hb3 hg hrow hdm
        go_wp2_with fail
        go_loopw [8, 9] (fun y z wr => ∃ k : Nat, k ≤ m1 ∧ z = .int .i64 k ∧ y = .int .i64 (sumZ (fun k => x k * dmZ m1 f k) k) ∧ Drawn w3 wr) (fun _ z _ => m1 - (intOf z).toNat)
        case atStart => exact ⟨0, by omega, rfl, rfl, Drawn.refl _⟩
        case round =>
          obtain ⟨k, hk, rfl, rfl, hdr⟩ := hrel
          have HD := Lib.hid hdr
          clear hdr
          by_cases hkn : k < m1
          · obtain ⟨b1, o1, rfl, hb1, hc1⟩ := HX3.out.open h0
            have e1 : wr.cell? ⟨b1, o1 + k, none⟩ = some (.int .i64 (x k)) := (HD.out.cell _).trans (hc1 k hkn)
            have e2 : wr.cell? ⟨g, k, none⟩ = some (.int .i64 (dmZ m1 f k)) := (HD.out.cell _).trans (RowB.cell (show RowB w3 2 g m1 _ from HQ.out) hkn)
            have q1 := HBd.out k hkn
            have q2 := sumZ_bd (g := fun k => x k * dmZ m1 f k) (n := k) (B := 16000000000) (fun l hl => HBd.out l (by omega))
            have HN := Lib.hid (show sumZ (fun k => x k * dmZ m1 f k) (k + 1) = sumZ (fun k => x k * dmZ m1 f k) k + x k * dmZ m1 f k from rfl)
            clear hc1
            generalize sumZ (fun k => x k * dmZ m1 f k) k = S at *
            generalize dmZ m1 f k = dk at *
            generalize x k = xk at *
            rw [Int.mul_comm] at q1 HN
            have f1 : IntKind.i64.wrap (dk * xk) = dk * xk := IntWalk.i64_in _ (by omega)
            have f2 : IntKind.i64.wrap (S + dk * xk) = S + dk * xk := IntWalk.i64_in _ (by omega)
            clear q1 q2
            go_wp2_with fail
            go_still_tail 11, (by kernel_rfl)
            change wpList _ _ _ _ _ wr.drew
            go_wp2_with fail
            exact ⟨⟨k + 1, by omega, by go_num, by rw [HN.out], HD.out.more 1⟩, by simp [intOf]; omega⟩
          · obtain rfl : k = m1 := by omega
            go_wp2_with fail
            go_ret2
            exact ⟨by rw [HDm.out]; rfl, HB3.out.trans HD.out.below⟩
      · have HB3 := Lib.hid (HB2.out.trans (hb3.mono HB2.out.size))
        have HDm := Lib.hid hdm
        clear hb3 hdm
        go_wp2_with fail
        go_ret2
        exact ⟨by rw [HDm.out]; rfl, HB3.out⟩
end Go.Proofs.Ytbbgmfahdpimfaa
