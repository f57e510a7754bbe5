/- RingFault of the specification; DualsOf of both. -/
import Derived.Test.YtaffiohdjkbkkaaRgH
namespace Go.Proofs.Ytaffiohdjkbkkaa
open Go.RowKit
set_option linter.unusedSimpArgs false
theorem specRingFault_f (a : Option Addr) (n c : Nat) (M : Nat → Nat) (L : Nat → Nat → Nat) (f : Nat → Nat → Nat → Int) (w : World) (h : RdT w a n M L f) (hn : n ≤ 1048576) (hM : ∀ i, i < n → M i ≤ 1048576) (hL : ∀ i, i < n → ∀ j, j < M i → L i j ≤ 1048576) :
    Calls Try.prog 44 #[.agg #[.slice a n c]] w (RowRes w (nRF n M L f) (fun j => (flt n f).getD j 0) (cRF n M L f)) := by
  have HI := Lib.hid (fun u (hu : Below w.heap.size w u) => l03Cube_f a n c M L f u (h.below hu (Nat.le_refl _)) (by omega) (fun i hi => Nat.le_trans (hM i hi) (by omega)) (fun i hi j hj => Nat.le_trans (hL i hi j hj) (by omega)))
  clear hM hL
  cases hc : cubB n M L f
  · have HN := Lib.hid (show nRF n M L f = 0 by simp [nRF, hc])
    have HE := Lib.hid (show cRF n M L f = 1 by simp [cRF, hc])
    rw [HE.out, HN.out]
    rw [hc] at HI
    clear h hc
    go_enter Try.func44, Try.ntmps44
    go_wp2_with fail
    refine (HI.out _ (below_alloc _ _)).mono ?_
    rintro e w1 ⟨rfl, rfl⟩
    go_wp2_with fail
    go_ret2
    exact rowRes_none rfl rfl (below_alloc _ _)
  · obtain ⟨h0, h16, hf⟩ := cub_num hc
    obtain ⟨b, off, B, O, C, B2, O2, C2, rfl, hat⟩ := cubeAt_of (cub_rd h hc) h0
    have HA := Lib.hid (fun u (hu : Below w.heap.size w u) => l03Fault_f b off n c B O C B2 O2 C2 f u (hat.below hu) h0 h16 hf)
    have HN := Lib.hid (show nRF n M L f = (flt n f).length by simp [nRF, hc])
    have HE := Lib.hid (show cRF n M L f = if flt n f = [] then 4 else 0 by simp [cRF, hc])
    rw [HE.out, HN.out]
    obtain ⟨cd, hcd⟩ : ∃ cd : Int, cd = if flt n f = [] then 4 else 0 := ⟨_, rfl⟩
    rw [← hcd]
    have HCD := Lib.hid hcd
    clear hcd
    rw [hc] at HI
    clear h hc hat hf
    go_enter Try.func44, Try.ntmps44
    go_wp2_with fail
    refine (HI.out _ (below_alloc _ _)).mono ?_
    rintro e w1 ⟨rfl, rfl⟩
    go_wp2_with fail
    refine (HA.out _ (below_alloc _ _)).mono ?_
    intro e w3 hres
    rcases hres with ⟨hl, rfl, hb3⟩ | ⟨hl, g3, c3, rfl, hg3, hr3, hb3⟩
    · have HB3 := Lib.hid ((below_alloc w (.cells #[.slice (some ⟨b, off, none⟩) n c] 39)).trans (hb3.mono (by simp)))
      obtain rfl : cd = 4 := by rw [HCD.out, if_pos hl]
      have HL := Lib.hid (show (flt n f).length = 0 by rw [hl]; rfl)
      clear hl hb3
      go_wp2_with fail
      go_ret2
      exact rowRes_none HL.out rfl HB3.out
    · have HB3 := Lib.hid ((below_alloc w (.cells #[.slice (some ⟨b, off, none⟩) n c] 39)).trans (hb3.mono (by simp)))
      have HG := Lib.hid (show w.heap.size ≤ g3 from Nat.le_trans (by simp) hg3)
      have HQ := Lib.hid hr3
      obtain rfl : cd = 0 := by rw [HCD.out, if_neg hl]
      have hd : (((flt n f).length : Int) == 0) = false := by simp; exact hl
      clear hl hb3 hg3 hr3
      obtain ⟨ln, hln⟩ : ∃ ln, ln = (flt n f).length := ⟨_, rfl⟩
      rw [← hln] at HQ hd ⊢
      have HLn := Lib.hid hln
      clear hln
      go_wp2_with fail
      go_ret2
      exact ⟨some ⟨g3, 0, none⟩, c3, (by rw [← HLn.out] <;> rfl), Or.inr ⟨g3, rfl, HG.out, by rw [← HLn.out]; exact HQ.out⟩, HB3.out⟩
def nRg (b : Bool) (n : Nat) : Nat := if b then n else 0
def cRg (b : Bool) : Int := if b then 0 else 1
theorem nRg_le {n : Nat} {M : Nat → Nat} {L : Nat → Nat → Nat} {f : Nat → Nat → Nat → Int} : nRg (ringB n M L f) n ≤ 64 := by
  unfold nRg
  split
  · rename_i h; have := (cub_num (ringB_t h).1).2.1; omega
  · omega
/-- what a ring is in memory -/
theorem ring_open {w : World} {a : Option Addr} {n : Nat} {M : Nat → Nat} {L : Nat → Nat → Nat} {f : Nat → Nat → Nat → Int} (h : RdT w a n M L f) (hr : ringB n M L f = true) : 0 < n ∧ n ≤ 16 ∧ (∀ i j k, i < n → j < n → k < n → 0 ≤ f i j k ∧ f i j k ≤ 1000) ∧ (∀ i, i < n → 0 ≤ dualOf n f i) ∧
    ∃ (b off : Nat) (B O C : Nat → Nat) (B2 O2 C2 : Nat → Nat → Nat), a = some ⟨b, off, none⟩ ∧ CubeAt w b off n B O C B2 O2 C2 f := by
  obtain ⟨hc, hf⟩ := ringB_t hr
  obtain ⟨h0, h16, hn⟩ := cub_num hc
  exact ⟨h0, h16, hn, flt_duals hf, cubeAt_of (cub_rd h hc) h0⟩
theorem implDuals_f (a : Option Addr) (n c : Nat) (M : Nat → Nat) (L : Nat → Nat → Nat) (f : Nat → Nat → Nat → Int) (w : World) (h : RdT w a n M L f) (hn : n ≤ 1048576) (hM : ∀ i, i < n → M i ≤ 1048576) (hL : ∀ i, i < n → ∀ j, j < M i → L i j ≤ 1048576) :
    Calls Try.prog 53 #[.agg #[.slice a n c]] w (RowRes w (nRg (ringB n M L f) n) (fun i => dualOf n f i) (cRg (ringB n M L f))) := by
  have HI := Lib.hid (fun u (hu : Below w.heap.size w u) => implIsRing_f a n c M L f u (h.below hu (Nat.le_refl _)) hn hM hL)
  clear hM hL
  cases hr : ringB n M L f
  · rw [hr] at HI
    clear h hr
    go_enter Try.func53, Try.ntmps53
    go_wp2_with fail
    refine (HI.out _ (below_alloc _ _)).mono ?_
    rintro e w1 ⟨rfl, hb⟩
    have HB := Lib.hid ((below_alloc w (.cells #[.slice a n c] 39)).trans (hb.mono (by simp)))
    clear hb
    go_wp2_with fail
    go_ret2
    exact rowRes_none rfl rfl HB.out
  · obtain ⟨h0, h16, hf, hd, b, off, B, O, C, B2, O2, C2, rfl, hat⟩ := ring_open h hr
    have HA := Lib.hid (fun u (hu : Below w.heap.size w u) => duals_f b off n c B O C B2 O2 C2 f u (hat.below hu) (by omega) (fun i j hi hj => (hf i j 0 hi hj h0).1))
    rw [hr] at HI
    clear h hr hat hf hd
    go_enter Try.func53, Try.ntmps53
    go_wp2_with fail
    refine (HI.out _ (below_alloc _ _)).mono ?_
    rintro e w1 ⟨rfl, hb⟩
    have HB := Lib.hid ((below_alloc w (.cells #[.slice (some ⟨b, off, none⟩) n c] 39)).trans (hb.mono (by simp)))
    have e0 : w1.cell? ⟨w.heap.size, 0, none⟩ = some (.slice (some ⟨b, off, none⟩) n c) := by
      rw [hb.cell (p := ⟨w.heap.size, 0, none⟩) (by simp)]; exact cell_box _ _ _
    clear hb
    go_wp2_with fail
    refine (HA.out _ HB.out).mono ?_
    rintro e w3 ⟨g, rfl, hg, hrow, hb3⟩
    have HB3 := Lib.hid (HB.out.trans (hb3.mono HB.out.size))
    have HG := Lib.hid (show w.heap.size ≤ g from Nat.le_trans HB.out.size hg)
    have HQ := Lib.hid hrow
    clear hb3 hg hrow e0
    go_wp2_with fail
    go_ret2
    exact ⟨_, _, rfl, Or.inr ⟨g, rfl, HG.out, HQ.out⟩, HB3.out⟩
theorem implDuals_f_rows (n : Nat) (M : Nat → Nat) (L : Nat → Nat → Nat) (f : Nat → Nat → Nat → Int) : nRg (ringB n M L f) n ≤ 64 := nRg_le
end Go.Proofs.Ytaffiohdjkbkkaa
