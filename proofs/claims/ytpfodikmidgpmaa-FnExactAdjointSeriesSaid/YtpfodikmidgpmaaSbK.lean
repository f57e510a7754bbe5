/- AdjointOf of both. -/
import Derived.Test.YtpfodikmidgpmaaSbGJ
import Derived.Test.YtpfodikmidgpmaaRgiP
namespace Go.Proofs.Ytpfodikmidgpmaa
open Go.RowKit
set_option linter.unusedSimpArgs false
set_option linter.unusedVariables false
def iRg (b : Bool) (x : Int) : Int := if b then x else 0
/-- the adjoint subring -/
noncomputable def adV (n : Nat) (f : Nat → Nat → Nat → Int) : Nat := genS n f (adB n f (allS n))
set_option maxRecDepth 100000 in
theorem implAdj_f (a : Option Addr) (n c : Nat) (M : Nat → Nat) (L : Nat → Nat → Nat) (f : Nat → Nat → Nat → Int) (w : World) (h : RdT w a n M L f) (hn : n ≤ 1048576) (hM : ∀ i, i < n → M i ≤ 1048576) (hL : ∀ i, i < n → ∀ j, j < M i → L i j ≤ 1048576) :
    Calls Try.prog 32 #[.agg #[.slice a n c]] w (IntRes w (iRg (ringB n M L f) (adV n f)) (cRg (ringB n M L f))) := by
  have HI := Lib.hid (fun u (hu : Below w.heap.size w u) => implIsRing_f a n c M L f u (h.below hu (Nat.le_refl _)) hn hM hL)
  clear hM hL
  cases hr : ringB n M L f
  · rw [hr] at HI
    clear h hr
    go_enter Try.func32, Try.ntmps32
    go_wp2_with fail
    refine (HI.out _ (below_alloc _ _)).mono ?_
    rintro e w1 ⟨rfl, hb⟩
    have HB := Lib.hid ((below_alloc w (.cells #[.slice a n c] 28)).trans (hb.mono (by simp)))
    have hsz : w.heap.size < w1.heap.size := by have := hb.size; simp at this; omega
    have e0 : w1.cell? ⟨w.heap.size, 0, none⟩ = some (.slice a n c) := by
      rw [hb.cell (p := ⟨w.heap.size, 0, none⟩) (by simp)]; exact cell_box _ _ _
    have E0 := Lib.hid e0
    clear hb
    go_wp2_with fail
    go_ret2
    exact ⟨rfl, HB.out⟩
  · have HRg := Lib.hid (rng_of hr)
    obtain ⟨h0, h16, hf, hd, b, off, B, O, C, B2, O2, C2, rfl, hat⟩ := ring_open h hr
    have HAt := Lib.hid hat
    rw [hr] at HI
    clear h hd hf hr hat
    go_enter Try.func32, Try.ntmps32
    go_wp2_with fail
    refine (HI.out _ (below_alloc _ _)).mono ?_
    rintro e w1 ⟨rfl, hb⟩
    have HB := Lib.hid ((below_alloc w (.cells #[.slice (some ⟨b, off, none⟩) n c] 28)).trans (hb.mono (by simp)))
    have hsz : w.heap.size < w1.heap.size := by have := hb.size; simp at this; omega
    have e0 : w1.cell? ⟨w.heap.size, 0, none⟩ = some (.slice (some ⟨b, off, none⟩) n c) := by
      rw [hb.cell (p := ⟨w.heap.size, 0, none⟩) (by simp)]; exact cell_box _ _ _
    have E0 := Lib.hid e0
    clear hb
    have HAl := Lib.hid (fun u g => all_f (some ⟨g, 0, none⟩) n n u h16)
    go_wp2_with fail
    clear e0
    refine (occurrences_f b off n c B O C B2 O2 C2 f _ (HAt.out.below HB.out) h0 h16).mono ?_
    rintro e w3 ⟨T, G, C', rfl, hocc, hb3⟩
    have HO := Lib.hid hocc
    have HB3 := Lib.hid (HB.out.trans (hb3.mono HB.out.size))
    clear hocc hb3
    have HAd := Lib.hid (adjoint_f T 0 n n G (fun _ => 0) C' f (allS n) w3 HO.out h0 h16 (allS_lt n))
    go_wp2_with first | (go_at_call 71; refine (HAl.out _ _).mono ?_; rintro e w5 ⟨rfl, rfl⟩) | (go_at_call 70; refine HAd.out.mono ?_; rintro e w6 ⟨g, rfl, hg, hb6⟩; have HG := Lib.hid hg; have HB6 := Lib.hid (HB3.out.trans (hb6.mono HB3.out.size)); clear hg hb6)
    have HE := Lib.hid (gen_eq HG.out)
    clear HG
    go_ret2
    exact ⟨by rw [HE.out]; rfl, HB6.out⟩
set_option maxRecDepth 100000 in
theorem specAdj_f (a : Option Addr) (n c : Nat) (M : Nat → Nat) (L : Nat → Nat → Nat) (f : Nat → Nat → Nat → Int) (w : World) (h : RdT w a n M L f) (hn : n ≤ 1048576) (hM : ∀ i, i < n → M i ≤ 1048576) (hL : ∀ i, i < n → ∀ j, j < M i → L i j ≤ 1048576) :
    Calls Try.prog 31 #[.agg #[.slice a n c]] w (IntRes w (iRg (ringB n M L f) (adV n f)) (cRg (ringB n M L f))) := by
  have HI := Lib.hid (fun u (hu : Below w.heap.size w u) => l03Is_f a n c M L f u (h.below hu (Nat.le_refl _)) hn hM hL)
  clear hM hL
  cases hr : ringB n M L f
  · rw [hr] at HI
    clear h hr
    go_enter Try.func31, Try.ntmps31
    go_wp2_with fail
    refine (HI.out _ (below_alloc _ _)).mono ?_
    rintro e w1 ⟨rfl, hb⟩
    have HB := Lib.hid ((below_alloc w (.cells #[.slice a n c] 28)).trans (hb.mono (by simp)))
    have hsz : w.heap.size < w1.heap.size := by have := hb.size; simp at this; omega
    have e0 : w1.cell? ⟨w.heap.size, 0, none⟩ = some (.slice a n c) := by
      rw [hb.cell (p := ⟨w.heap.size, 0, none⟩) (by simp)]; exact cell_box _ _ _
    have E0 := Lib.hid e0
    clear hb
    go_wp2_with fail
    go_ret2
    exact ⟨rfl, HB.out⟩
  · have HRg := Lib.hid (rng_of hr)
    obtain ⟨h0, h16, hf, hd, b, off, B, O, C, B2, O2, C2, rfl, hat⟩ := ring_open h hr
    have HAt := Lib.hid hat
    rw [hr] at HI
    clear h hd hf hr hat
    go_enter Try.func31, Try.ntmps31
    go_wp2_with fail
    refine (HI.out _ (below_alloc _ _)).mono ?_
    rintro e w1 ⟨rfl, hb⟩
    have HB := Lib.hid ((below_alloc w (.cells #[.slice (some ⟨b, off, none⟩) n c] 28)).trans (hb.mono (by simp)))
    have hsz : w.heap.size < w1.heap.size := by have := hb.size; simp at this; omega
    have e0 : w1.cell? ⟨w.heap.size, 0, none⟩ = some (.slice (some ⟨b, off, none⟩) n c) := by
      rw [hb.cell (p := ⟨w.heap.size, 0, none⟩) (by simp)]; exact cell_box _ _ _
    have E0 := Lib.hid e0
    clear hb
    go_wp2_with fail
    clear e0
    refine (l05Adjoint_f b off n c B O C B2 O2 C2 f _ (HAt.out.below HB.out) HRg.out).mono ?_
    rintro e w3 ⟨g, rfl, hg, hb3⟩
    have HE := Lib.hid (gen_eq hg)
    have HB3 := Lib.hid (HB.out.trans (hb3.mono HB.out.size))
    clear hg hb3
    go_wp2_with fail
    go_ret2
    exact ⟨by rw [HE.out]; rfl, HB3.out⟩
end Go.Proofs.Ytpfodikmidgpmaa
