/- RingText of the program. -/
import Derived.Test.YtaffiohdjkbkkaaDoorTxC
namespace Go.Proofs.YtaffiohdjkbkkaaDoor
open Go.RowKit
set_option linter.unusedSimpArgs false
theorem implRingText_f (a : Option Addr) (n c : Nat) (M : Nat → Nat) (L : Nat → Nat → Nat) (f : Nat → Nat → Nat → Int) (w : World) (h : RdT w a n M L f) (hn : n ≤ 1048576) (hM : ∀ i, i < n → M i ≤ 1048576) (hL : ∀ i, i < n → ∀ j, j < M i → L i j ≤ 1048576) (hP : PowTab w) (hG : 0 < w.heap.size) :
    Calls Tryd.prog 7 #[.agg #[.slice a n c]] w fun e w' => e = .returned (.tuple #[.string ⟨(tRg n M L f).toArray⟩, .int .i64 (cRg (ringB n M L f))]) ∧ Below w.heap.size w w' := by
  have HP := Lib.hid hP
  clear hP
  have HI := Lib.hid (fun u (hu : Below w.heap.size w u) => implIsRing_f a n c M L f u (h.below hu (Nat.le_refl _)) hn hM hL)
  clear hM hL
  cases hr : ringB n M L f
  · have HT := Lib.hid (show ([] : List UInt8) = tRg n M L f by simp [tRg, hr])
    rw [hr] at HI
    clear h hr
    go_enter Tryd.func7, Tryd.ntmps7
    go_wp2_with fail
    refine (HI.out _ (below_alloc _ _)).mono ?_
    rintro e w1 ⟨rfl, hb⟩
    have HB := Lib.hid ((below_alloc w (.cells #[.slice a n c] 28)).trans (hb.mono (by simp)))
    clear hb
    go_wp2_with fail
    go_ret2
    exact ⟨ret_rt HT.out rfl, HB.out⟩
  · have HT := Lib.hid (show ringT n f n = tRg n M L f by simp [tRg, hr])
    obtain ⟨h0, h16, hf, hd, b, off, B, O, C, B2, O2, C2, rfl, hat⟩ := ring_open h hr
    have HA := Lib.hid (fun u (hu : Below w.heap.size w u) => text_f b off n c B O C B2 O2 C2 f u (hat.below hu) h0 h16 hf (powTab_below HP.out hu hG) (Nat.lt_of_lt_of_le hG hu.size))
    rw [hr] at HI
    clear h hr hat hf hd
    go_enter Tryd.func7, Tryd.ntmps7
    go_wp2_with fail
    refine (HI.out _ (below_alloc _ _)).mono ?_
    rintro e w1 ⟨rfl, hb⟩
    have HB := Lib.hid ((below_alloc w (.cells #[.slice (some ⟨b, off, none⟩) n c] 28)).trans (hb.mono (by simp)))
    have e0 : w1.cell? ⟨w.heap.size, 0, none⟩ = some (.slice (some ⟨b, off, none⟩) n c) := by
      rw [hb.cell (p := ⟨w.heap.size, 0, none⟩) (by simp)]; exact cell_box _ _ _
    clear hb
    go_wp2_with fail
    refine (HA.out _ HB.out).mono ?_
    rintro e w3 ⟨rfl, hb3⟩
    have HB3 := Lib.hid (HB.out.trans (hb3.mono HB.out.size))
    clear hb3 e0
    go_wp2_with fail
    go_ret2
    exact ⟨ret_rt HT.out rfl, HB3.out⟩
end Go.Proofs.YtaffiohdjkbkkaaDoor
