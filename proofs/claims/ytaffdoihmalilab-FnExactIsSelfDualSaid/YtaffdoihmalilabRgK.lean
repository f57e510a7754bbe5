/- IsSelfDual of both. -/
import Derived.Test.YtaffdoihmalilabRgI
namespace Go.Proofs.Ytaffdoihmalilab
open Go.RowKit
set_option linter.unusedSimpArgs false
/-- whether all labels are their own duals -/
def selfB (n : Nat) (f : Nat → Nat → Nat → Int) : Bool := decide (∀ i, i < n → dualOf n f i = (i : Int))
theorem selfB_mk {n : Nat} {f : Nat → Nat → Nat → Int} (h : ∀ i, i < n → dualOf n f i = (i : Int)) : selfB n f = true := decide_eq_true h
theorem selfB_no {n i : Nat} {f : Nat → Nat → Nat → Int} (hi : i < n) (h : dualOf n f i ≠ (i : Int)) : selfB n f = false := decide_eq_false fun c => h (c i hi)
theorem isSelfDual_f (b off n c : Nat) (B O C : Nat → Nat) (B2 O2 C2 : Nat → Nat → Nat) (f : Nat → Nat → Nat → Int) (w : World) (h : CubeAt w b off n B O C B2 O2 C2 f) (hn : n ≤ 1000) (hf : ∀ i j, i < n → j < n → 0 ≤ f i j 0) :
    Calls Try.prog 54 #[.agg #[.slice (some ⟨b, off, none⟩) n c]] w fun e w' => e = .returned (.bool (selfB n f)) ∧ Below w.heap.size w w' := by
  have H := Lib.hid h
  have HF := Lib.hid hf
  clear h hf
  go_enter Try.func54, Try.ntmps54
  go_wp2_with fail
  refine (duals_f b off n c B O C B2 O2 C2 f _ (H.out.below (below_alloc w _)) hn HF.out).mono ?_
  rintro e w1 ⟨g, rfl, hg, hr1, hb1⟩
  have HB := Lib.hid ((below_alloc w (.cells #[.slice (some ⟨b, off, none⟩) n c] 28)).trans (hb1.mono (by simp)))
  have HR := Lib.hid hr1
  clear hb1 hr1 hg
  go_wp2_with fail
  go_loop [8] (fun x => ∃ i : Nat, i ≤ n ∧ x = .int .i64 i ∧ ∀ i', i' < i → dualOf n f i' = (i' : Int)) (fun x => n - (intOf x).toNat)
  case atStart => exact ⟨0, by omega, rfl, fun i hi => absurd hi (by omega)⟩
  case round =>
    obtain ⟨i, hi, rfl, hall⟩ := hrel
    have HA := Lib.hid hall
    clear hall
    by_cases hin : i < n
    · have e1 : w1.cell? ⟨g, i, none⟩ = some (.int .i64 (dualOf n f i)) := RowB.cell (show RowB w1 2 g n _ from HR.out) hin
      cases hp : (dualOf n f i != (i : Int))
      · have HN := Lib.hid (show ∀ i', i' < i + 1 → dualOf n f i' = (i' : Int) from fun i' hi' => by
          by_cases e : i' = i
          · rw [e]; simpa using hp
          · exact HA.out i' (by omega))
        generalize dualOf n f i = d at *
        go_wp2_with fail
        exact ⟨⟨i + 1, by omega, by go_num, HN.out⟩, by simp [intOf]; omega⟩
      · have HN := Lib.hid (selfB_no (f := f) hin (by simpa using hp))
        generalize dualOf n f i = d at *
        go_wp2_with fail
        go_ret
        exact ⟨ret_bool HN.out.symm, HB.out⟩
    · obtain rfl : i = n := by omega
      have HN := Lib.hid (selfB_mk HA.out)
      go_wp2_with fail
      go_ret
      exact ⟨ret_bool HN.out.symm, HB.out⟩
theorem implSelf_f (a : Option Addr) (n c : Nat) (M : Nat → Nat) (L : Nat → Nat → Nat) (f : Nat → Nat → Nat → Int) (w : World) (h : RdT w a n M L f) (hn : n ≤ 1048576) (hM : ∀ i, i < n → M i ≤ 1048576) (hL : ∀ i, i < n → ∀ j, j < M i → L i j ≤ 1048576) :
    Calls Try.prog 15 #[.agg #[.slice a n c]] w (BoolCode w (ringB n M L f && selfB n f) (cRg (ringB n M L f))) := by
  have HI := Lib.hid (fun u (hu : Below w.heap.size w u) => implIsRing_f a n c M L f u (h.below hu (Nat.le_refl _)) hn hM hL)
  clear hM hL
  cases hr : ringB n M L f
  · rw [hr] at HI
    clear h hr
    go_enter Try.func15, Try.ntmps15
    go_wp2_with fail
    refine (HI.out _ (below_alloc _ _)).mono ?_
    rintro e w1 ⟨rfl, hb⟩
    have HB := Lib.hid ((below_alloc w (.cells #[.slice a n c] 28)).trans (hb.mono (by simp)))
    clear hb
    go_wp2_with fail
    go_ret2
    exact ⟨rfl, HB.out⟩
  · obtain ⟨h0, h16, hf, hd, b, off, B, O, C, B2, O2, C2, rfl, hat⟩ := ring_open h hr
    have HA := Lib.hid (fun u (hu : Below w.heap.size w u) => isSelfDual_f b off n c B O C B2 O2 C2 f u (hat.below hu) (by omega) (fun i j hi hj => (hf i j 0 hi hj h0).1))
    rw [hr] at HI
    clear h hr hat hf hd
    rw [Bool.true_and]
    generalize selfB n f = rb at *
    go_enter Try.func15, Try.ntmps15
    go_wp2_with fail
    refine (HI.out _ (below_alloc _ _)).mono ?_
    rintro e w1 ⟨rfl, hb⟩
    have HB := Lib.hid ((below_alloc w (.cells #[.slice (some ⟨b, off, none⟩) n c] 28)).trans (hb.mono (by simp)))
    have e0 : w1.cell? ⟨w.heap.size, 0, none⟩ = some (.slice (some ⟨b, off, none⟩) n c) := by
      rw [hb.cell (p := ⟨w.heap.size, 0, none⟩) (by simp)]; exact cell_box _ _ _
    clear hb
    go_wp2_with fail
    refine (HA.out _ HB.out).mono ?_
    rintro e w3 ⟨rfl, hb3⟩
    have HB3 := Lib.hid (HB.out.trans (hb3.mono HB.out.size))
    clear hb3 e0
    go_wp2_with fail
    go_ret2
    exact ⟨rfl, HB3.out⟩
theorem specSelf_f (a : Option Addr) (n c : Nat) (M : Nat → Nat) (L : Nat → Nat → Nat) (f : Nat → Nat → Nat → Int) (w : World) (h : RdT w a n M L f) (hn : n ≤ 1048576) (hM : ∀ i, i < n → M i ≤ 1048576) (hL : ∀ i, i < n → ∀ j, j < M i → L i j ≤ 1048576) :
    Calls Try.prog 13 #[.agg #[.slice a n c]] w (BoolCode w (ringB n M L f && selfB n f) (cRg (ringB n M L f))) := by
  have HI := Lib.hid (fun u (hu : Below w.heap.size w u) => l03Is_f a n c M L f u (h.below hu (Nat.le_refl _)) hn hM hL)
  clear hM hL
  cases hr : ringB n M L f
  · rw [hr] at HI
    clear h hr
    go_enter Try.func13, Try.ntmps13
    go_wp2_with fail
    refine (HI.out _ (below_alloc _ _)).mono ?_
    rintro e w1 ⟨rfl, hb⟩
    have HB := Lib.hid ((below_alloc w (.cells #[.slice a n c] 28)).trans (hb.mono (by simp)))
    clear hb
    go_wp2_with fail
    go_ret2
    exact ⟨rfl, HB.out⟩
  · obtain ⟨h0, h16, hf, hd, b, off, B, O, C, B2, O2, C2, rfl, hat⟩ := ring_open h hr
    have HA := Lib.hid (fun u (hu : Below w.heap.size w u) => l03Duals_f b off n c B O C B2 O2 C2 f u (hat.below hu) (by omega))
    rw [hr] at HI
    clear h hr hat hf hd
    rw [Bool.true_and]
    go_enter Try.func13, Try.ntmps13
    go_wp2_with fail
    refine (HI.out _ (below_alloc _ _)).mono ?_
    rintro e w1 ⟨rfl, hb⟩
    have HB := Lib.hid ((below_alloc w (.cells #[.slice (some ⟨b, off, none⟩) n c] 28)).trans (hb.mono (by simp)))
    have e0 : w1.cell? ⟨w.heap.size, 0, none⟩ = some (.slice (some ⟨b, off, none⟩) n c) := by
      rw [hb.cell (p := ⟨w.heap.size, 0, none⟩) (by simp)]; exact cell_box _ _ _
    clear hb
    go_wp2_with fail
    refine (HA.out _ HB.out).mono ?_
    rintro e w3 ⟨g, cg, rfl, hg, hrow, hb3⟩
    have HB3 := Lib.hid (HB.out.trans (hb3.mono HB.out.size))
    have HR := Lib.hid hrow
    clear hb3 hg hrow e0
    go_wp2_with fail
    go_loop [5] (fun x => ∃ i : Nat, i ≤ n ∧ x = .int .i64 i ∧ ∀ i', i' < i → dualOf n f i' = (i' : Int)) (fun x => n - (intOf x).toNat)
    case atStart => exact ⟨0, by omega, rfl, fun i hi => absurd hi (by omega)⟩
    case round =>
      obtain ⟨i, hi, rfl, hall⟩ := hrel
      have HA := Lib.hid hall
      clear hall
      by_cases hin : i < n
      · have e1 : w3.cell? ⟨g, i, none⟩ = some (.int .i64 (dualOf n f i)) := RowB.cell (show RowB w3 2 g n _ from HR.out) hin
        cases hp : (dualOf n f i != (i : Int))
        · have HN := Lib.hid (show ∀ i', i' < i + 1 → dualOf n f i' = (i' : Int) from fun i' hi' => by
            by_cases e : i' = i
            · rw [e]; simpa using hp
            · exact HA.out i' (by omega))
          generalize dualOf n f i = d at *
          go_wp2_with fail
          exact ⟨⟨i + 1, by omega, by go_num, HN.out⟩, by simp [intOf]; omega⟩
        · have HN := Lib.hid (selfB_no (f := f) hin (by simpa using hp))
          generalize dualOf n f i = d at *
          go_wp2_with fail
          go_ret2
          exact ⟨by rw [HN.out]; rfl, HB3.out⟩
      · obtain rfl : i = n := by omega
        have HN := Lib.hid (selfB_mk HA.out)
        go_wp2_with fail
        go_ret2
        exact ⟨by rw [HN.out]; rfl, HB3.out⟩
end Go.Proofs.Ytaffdoihmalilab
