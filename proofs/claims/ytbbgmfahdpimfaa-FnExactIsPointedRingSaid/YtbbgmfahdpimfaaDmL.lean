/- IsPointedRing of both. -/
import Derived.Test.YtbbgmfahdpimfaaDmK
namespace Go.Proofs.Ytbbgmfahdpimfaa
open Go.RowKit
set_option linter.unusedSimpArgs false
/-- all labels are invertible -/
def poB (n : Nat) (f : Nat → Nat → Nat → Int) : Bool := decide ((ivs n f n).length = n)
set_option maxRecDepth 100000 in
theorem isPointed_f (b off n c : Nat) (B O C : Nat → Nat) (B2 O2 C2 : Nat → Nat → Nat) (f : Nat → Nat → Nat → Int) (w : World) (h : CubeAt w b off n B O C B2 O2 C2 f) (R : Rng n f) :
    Calls Try.prog 60 #[.agg #[.slice (some ⟨b, off, none⟩) n c]] w fun e w' => e = .returned (.bool (poB n f)) ∧ Below w.heap.size w w' := by
  have H := Lib.hid h
  have HR := Lib.hid R
  clear h R
  obtain ⟨W, hW⟩ : ∃ W, W = w.alloc (.cells #[.slice (some ⟨b, off, none⟩) n c] 29) := ⟨_, rfl⟩
  have HWe := Lib.hid hW
  have HW0 := Lib.hid (show Below w.heap.size w W by rw [hW]; exact below_alloc w _)
  have HWs := Lib.hid (show W.heap.size = w.heap.size + 1 by rw [hW]; simp)
  have KW := Lib.hid (show W.cell? ⟨w.heap.size, 0, none⟩ = some (.slice (some ⟨b, off, none⟩) n c) by rw [hW]; exact cell_box _ _ _)
  clear hW
  have HP := Lib.hid (show poB n f = (((ivs n f n).length : Int) == (n : Int)) by
    unfold poB
    by_cases e : (ivs n f n).length = n
    · rw [decide_eq_true e, e]; simp
    · rw [decide_eq_false e, show (((ivs n f n).length : Int) == (n : Int)) = false by simp; omega])
  rw [HP.out]
  clear HP
  go_enter Try.func60, Try.ntmps60
  go_wp2_with fail
  rw [← HWe.out]
  go_region_held3 (fun u => u.cell? ⟨w.heap.size, 0, none⟩ = some (.slice (some ⟨b, off, none⟩) n c)) (first | exact KA.out | exact KW.out) (first | (go_at_call 59; refine (invertibleLabels_f b off n c B O C B2 O2 C2 f _ (H.out.below (by first | exact HW0.out.drew | exact HW0.out)) HR.out).mono ?_; rintro e w2 ⟨g1, cg1, rfl, hg1, hr1, hb1⟩; have HB1 := Lib.hid (show Below W.heap.size W w2 from ⟨hb1.os, hb1.tape, hb1.output, hb1.size, hb1.block⟩); have KA := Lib.hid (show w2.cell? ⟨w.heap.size, 0, none⟩ = some (.slice (some ⟨b, off, none⟩) n c) from (HB1.out.cell (p := ⟨w.heap.size, 0, none⟩) (by rw [HWs.out]; show w.heap.size < _; omega)).trans KW.out); clear hg1 hr1 hb1) | fail)
  go_wp2_with fail
  go_ret
  exact ⟨rfl, HW0.out.trans (HB1.out.mono (by rw [HWs.out]; omega))⟩
set_option maxRecDepth 100000 in
theorem implPoi_f (a : Option Addr) (n c : Nat) (M : Nat → Nat) (L : Nat → Nat → Nat) (f : Nat → Nat → Nat → Int) (w : World) (h : RdT w a n M L f) (hn : n ≤ 1048576) (hM : ∀ i, i < n → M i ≤ 1048576) (hL : ∀ i, i < n → ∀ j, j < M i → L i j ≤ 1048576) :
    Calls Try.prog 30 #[.agg #[.slice a n c]] w (BoolCode w (ringB n M L f && poB n f) (cRg (ringB n M L f))) := by
  have HI := Lib.hid (fun u (hu : Below w.heap.size w u) => implIsRing_f a n c M L f u (h.below hu (Nat.le_refl _)) hn hM hL)
  clear hM hL
  cases hr : ringB n M L f
  · rw [hr] at HI
    clear h hr
    go_enter Try.func30, Try.ntmps30
    go_wp2_with fail
    refine (HI.out _ (below_alloc _ _)).mono ?_
    rintro e w1 ⟨rfl, hb⟩
    have HB := Lib.hid ((below_alloc w (.cells #[.slice a n c] 29)).trans (hb.mono (by simp)))
    have hsz : w.heap.size < w1.heap.size := by have := hb.size; simp at this; omega
    have e0 : w1.cell? ⟨w.heap.size, 0, none⟩ = some (.slice a n c) := by
      rw [hb.cell (p := ⟨w.heap.size, 0, none⟩) (by simp)]; exact cell_box _ _ _
    have E0 := Lib.hid e0
    clear hb
    go_wp2_with fail
    go_ret2
    exact ⟨rfl, HB.out⟩
  · have HRg := Lib.hid (rng_of hr)
    obtain ⟨h0, h16, hf, hd, b, off, B, O, C, B2, O2, C2, rfl, hat⟩ := ring_open h hr
    have HAt := Lib.hid hat
    rw [hr] at HI
    clear h hd hr hat
    go_enter Try.func30, Try.ntmps30
    go_wp2_with fail
    refine (HI.out _ (below_alloc _ _)).mono ?_
    rintro e w1 ⟨rfl, hb⟩
    have HB := Lib.hid ((below_alloc w (.cells #[.slice (some ⟨b, off, none⟩) n c] 29)).trans (hb.mono (by simp)))
    have hsz : w.heap.size < w1.heap.size := by have := hb.size; simp at this; omega
    have e0 : w1.cell? ⟨w.heap.size, 0, none⟩ = some (.slice (some ⟨b, off, none⟩) n c) := by
      rw [hb.cell (p := ⟨w.heap.size, 0, none⟩) (by simp)]; exact cell_box _ _ _
    have E0 := Lib.hid e0
    clear hb
    go_wp2_with fail
    clear e0
    refine (isPointed_f b off n c B O C B2 O2 C2 f _ (HAt.out.below HB.out) HRg.out).mono ?_
    rintro e w3 ⟨rfl, hb3⟩
    have HB3 := Lib.hid (HB.out.trans (hb3.mono HB.out.size))
    clear hb3
    go_wp2_with fail
    go_ret2
    exact ⟨rfl, HB3.out⟩
set_option maxRecDepth 100000 in
theorem specPoi_f (a : Option Addr) (n c : Nat) (M : Nat → Nat) (L : Nat → Nat → Nat) (f : Nat → Nat → Nat → Int) (w : World) (h : RdT w a n M L f) (hn : n ≤ 1048576) (hM : ∀ i, i < n → M i ≤ 1048576) (hL : ∀ i, i < n → ∀ j, j < M i → L i j ≤ 1048576) :
    Calls Try.prog 29 #[.agg #[.slice a n c]] w (BoolCode w (ringB n M L f && poB n f) (cRg (ringB n M L f))) := by
  have HI := Lib.hid (fun u (hu : Below w.heap.size w u) => specIvl_f a n c M L f u (h.below hu (Nat.le_refl _)) hn hM hL)
  clear hM hL
  have HW0 := Lib.hid (below_alloc w (.cells #[.slice a n c] 29))
  cases hr : ringB n M L f
  · rw [hr] at HI
    clear h hr
    go_enter Try.func29, Try.ntmps29
    go_wp2_with fail
    refine (HI.out _ HW0.out).mono ?_
    rintro e w1 ⟨ga, gc, rfl, q, hb⟩
    have HB := Lib.hid (HW0.out.trans (hb.mono (by simp)))
    clear hb q
    have hz : (cRg false != 0) = true := by decide
    go_wp2_with fail
    go_ret2
    exact ⟨rfl, HB.out⟩
  · rw [hr] at HI
    clear h hr
    have HP := Lib.hid (show poB n f = (((ivs n f n).length : Int) == (n : Int)) by
      unfold poB
      by_cases e : (ivs n f n).length = n
      · rw [decide_eq_true e, e]; simp
      · rw [decide_eq_false e, show (((ivs n f n).length : Int) == (n : Int)) = false by simp; omega])
    have HN := Lib.hid (show nRg true (ivs n f n).length = (ivs n f n).length from rfl)
    rw [Bool.true_and, HP.out]
    rw [HN.out] at HI
    clear HP HN
    obtain ⟨l, hl⟩ : ∃ l, l = (ivs n f n).length := ⟨_, rfl⟩
    rw [← hl] at HI ⊢
    clear hl
    go_enter Try.func29, Try.ntmps29
    go_wp2_with fail
    refine (HI.out _ HW0.out).mono ?_
    rintro e w1 ⟨ga, gc, rfl, q, hb⟩
    have HB := Lib.hid (HW0.out.trans (hb.mono (by simp)))
    have e0 : w1.cell? ⟨w.heap.size, 0, none⟩ = some (.slice a n c) := by
      rw [hb.cell (p := ⟨w.heap.size, 0, none⟩) (by simp)]; exact cell_box _ _ _
    clear hb q
    have hz : (cRg true != 0) = false := by decide
    go_wp2_with fail
    go_ret2
    exact ⟨rfl, HB.out⟩
end Go.Proofs.Ytbbgmfahdpimfaa
