/- GradingGroup of the program. -/
import Derived.Test.YtpfodikmidgpmaaDoorGgD
namespace Go.Proofs.YtpfodikmidgpmaaDoor
open Go.RowKit
set_option linter.unusedSimpArgs false
set_option linter.unusedVariables false
set_option maxRecDepth 100000 in
set_option maxHeartbeats 4000000 in
theorem implGrd_f (a : Option Addr) (n c : Nat) (M : Nat → Nat) (L : Nat → Nat → Nat) (f : Nat → Nat → Nat → Int) (w : World) (h : RdT w a n M L f) (hn : n ≤ 1048576) (hM : ∀ i, i < n → M i ≤ 1048576) (hL : ∀ i, i < n → ∀ j, j < M i → L i j ≤ 1048576) (hT : TzTab w) (hG : 0 < w.heap.size) :
    Calls Tryd.prog 7 #[.agg #[.slice a n c]] w (TabRes w (nRg (ringB n M L f) (cpM n f)) (fun _ => cpM n f) (ggF n f) (cRg (ringB n M L f))) := by
  have HI := Lib.hid (fun u (hu : Below w.heap.size w u) => implIsRing_f a n c M L f u (h.below hu (Nat.le_refl _)) hn hM hL)
  clear hM hL
  cases hr : ringB n M L f
  · rw [hr] at HI
    clear h hr
    go_enter Tryd.func7, Tryd.ntmps7
    go_wp2_with fail
    refine (HI.out _ (below_alloc _ _)).mono ?_
    rintro e w1 ⟨rfl, hb⟩
    have HB := Lib.hid ((below_alloc w (.cells #[.slice a n c] 29)).trans (hb.mono (by simp)))
    have hsz : w.heap.size < w1.heap.size := by have := hb.size; simp at this; omega
    have e0 : w1.cell? ⟨w.heap.size, 0, none⟩ = some (.slice a n c) := by
      rw [hb.cell (p := ⟨w.heap.size, 0, none⟩) (by simp)]; exact cell_box _ _ _
    have E0 := Lib.hid e0
    clear hb
    go_wp2_with fail
    go_ret2
    exact ⟨none, 0, rfl, Or.inl rfl, HB.out⟩
  · have HRg := Lib.hid (rng_of hr)
    obtain ⟨h0, h16, hf, hd, b, off, B, O, C, B2, O2, C2, rfl, hat⟩ := ring_open h hr
    have HAt := Lib.hid hat
    rw [hr] at HI
    clear h hd hf hr hat
    go_enter Tryd.func7, Tryd.ntmps7
    go_wp2_with fail
    refine (HI.out _ (below_alloc _ _)).mono ?_
    rintro e w1 ⟨rfl, hb⟩
    have HB := Lib.hid ((below_alloc w (.cells #[.slice (some ⟨b, off, none⟩) n c] 29)).trans (hb.mono (by simp)))
    have hsz : w.heap.size < w1.heap.size := by have := hb.size; simp at this; omega
    have e0 : w1.cell? ⟨w.heap.size, 0, none⟩ = some (.slice (some ⟨b, off, none⟩) n c) := by
      rw [hb.cell (p := ⟨w.heap.size, 0, none⟩) (by simp)]; exact cell_box _ _ _
    have E0 := Lib.hid e0
    clear hb
    have HT := Lib.hid hT
    clear hT
    go_wp2_with fail
    clear e0
    refine (occurrences_f b off n c B O C B2 O2 C2 f _ (HAt.out.below HB.out) h0 h16).mono ?_
    rintro e w3 ⟨T, G, C', rfl, hocc, hb3⟩
    have HO := Lib.hid hocc
    have HB3 := Lib.hid (HB.out.trans (hb3.mono HB.out.size))
    clear hocc hb3
    go_wp2_with fail
    refine (gradingGroup_f T 0 n n G (fun _ => 0) C' f _ HO.out HRg.out (HT.out.below hG HB3.out) (Nat.lt_of_lt_of_le hG HB3.out.size)).mono ?_
    rintro e w6 ⟨TB, C3, G3, rfl, hmat, hb6⟩
    have HM := Lib.hid hmat
    have HS3 := Lib.hid HB3.out.size
    have HB6 := Lib.hid (HB3.out.trans (hb6.mono HB3.out.size))
    clear hmat hb6
    go_wp2_with fail
    go_ret2
    exact ⟨_, _, rfl, Or.inr ⟨TB, C3, G3, rfl, ⟨Nat.le_trans HS3.out HM.out.hlo, HM.out.outer, fun i hi => ⟨Nat.le_trans HS3.out (HM.out.row i hi).1, (HM.out.row i hi).2⟩, HM.out.apart⟩⟩, HB6.out⟩
end Go.Proofs.YtpfodikmidgpmaaDoor
