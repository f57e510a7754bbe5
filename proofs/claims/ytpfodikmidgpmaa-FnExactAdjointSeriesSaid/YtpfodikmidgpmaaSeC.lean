/- AdjointSeries of both. -/
import Derived.Test.YtpfodikmidgpmaaSeA
import Derived.Test.YtpfodikmidgpmaaSeB
namespace Go.Proofs.Ytpfodikmidgpmaa
open Go.RowKit
set_option linter.unusedSimpArgs false
set_option linter.unusedVariables false
set_option maxRecDepth 100000 in
theorem implSer_f (a : Option Addr) (n c : Nat) (M : Nat → Nat) (L : Nat → Nat → Nat) (f : Nat → Nat → Nat → Int) (w : World) (h : RdT w a n M L f) (hn : n ≤ 1048576) (hM : ∀ i, i < n → M i ≤ 1048576) (hL : ∀ i, i < n → ∀ j, j < M i → L i j ≤ 1048576) :
    Calls Try.prog 34 #[.agg #[.slice a n c]] w (RowRes w (nRg (ringB n M L f) (sTop n f + 1)) (fun j => (adI n f j : Nat)) (cRg (ringB n M L f))) := by
  have HI := Lib.hid (fun u (hu : Below w.heap.size w u) => implIsRing_f a n c M L f u (h.below hu (Nat.le_refl _)) hn hM hL)
  clear hM hL
  cases hr : ringB n M L f
  · rw [hr] at HI
    clear h hr
    go_enter Try.func34, Try.ntmps34
    go_wp2_with fail
    refine (HI.out _ (below_alloc _ _)).mono ?_
    rintro e w1 ⟨rfl, hb⟩
    have HB := Lib.hid ((below_alloc w (.cells #[.slice a n c] 28)).trans (hb.mono (by simp)))
    have hsz : w.heap.size < w1.heap.size := by have := hb.size; simp at this; omega
    have e0 : w1.cell? ⟨w.heap.size, 0, none⟩ = some (.slice a n c) := by
      rw [hb.cell (p := ⟨w.heap.size, 0, none⟩) (by simp)]; exact cell_box _ _ _
    have E0 := Lib.hid e0
    clear hb
    go_wp2_with fail
    go_ret2
    exact rowRes_none rfl rfl HB.out
  · have HRg := Lib.hid (rng_of hr)
    obtain ⟨h0, h16, hf, hd, b, off, B, O, C, B2, O2, C2, rfl, hat⟩ := ring_open h hr
    have HAt := Lib.hid hat
    rw [hr] at HI
    clear h hd hf hr hat
    go_enter Try.func34, Try.ntmps34
    go_wp2_with fail
    refine (HI.out _ (below_alloc _ _)).mono ?_
    rintro e w1 ⟨rfl, hb⟩
    have HB := Lib.hid ((below_alloc w (.cells #[.slice (some ⟨b, off, none⟩) n c] 28)).trans (hb.mono (by simp)))
    have hsz : w.heap.size < w1.heap.size := by have := hb.size; simp at this; omega
    have e0 : w1.cell? ⟨w.heap.size, 0, none⟩ = some (.slice (some ⟨b, off, none⟩) n c) := by
      rw [hb.cell (p := ⟨w.heap.size, 0, none⟩) (by simp)]; exact cell_box _ _ _
    have E0 := Lib.hid e0
    clear hb
    go_wp2_with fail
    clear e0
    refine (occurrences_f b off n c B O C B2 O2 C2 f _ (HAt.out.below HB.out) h0 h16).mono ?_
    rintro e w3 ⟨T, G, C', rfl, hocc, hb3⟩
    have HO := Lib.hid hocc
    have HB3 := Lib.hid (HB.out.trans (hb3.mono HB.out.size))
    clear hocc hb3
    go_wp2_with fail
    refine (series_f _ n n _).mono ?_
    rintro e w4 ⟨rfl, rfl⟩
    obtain ⟨wb, hwb⟩ : ∃ u, u = w3.alloc (.cells #[.slice (some ⟨T, 0, none⟩) n n] 55) := ⟨_, rfl⟩
    have HBx := Lib.hid (show Boxed wb w3.heap.size 55 (.slice (some ⟨T, 0, none⟩) n n) by rw [hwb]; exact Boxed.new _ _ _)
    have HO4 := Lib.hid (show OccP wb T 0 n G (fun _ => 0) C' (occ n f) by rw [hwb]; exact HO.out.below (below_alloc w3 _) (Nat.le_refl _))
    have HB4 := Lib.hid (show Below w.heap.size w wb by rw [hwb]; exact HB3.out.alloc HB3.out.size _)
    rw [← hwb]
    clear hwb
    go_wp2_with fail
    refine (collectSets_f 104 #[.pointer (some ⟨w3.heap.size, 0, none⟩)] wb.heap.size 65536 (fun ys => ys = srL n f (sTop n f + 1)) (fun pre => pre <+: srL n f (sTop n f + 1)) wb (by omega) (Nat.le_refl _) (enters_of Try.func104 (by kernel_rfl) rfl) (fun u hu => series_stops (9 - 1) w3.heap.size T 0 n n G (fun _ => 0) C' f wb HO4.out HRg.out HBx.out u hu)).mono ?_
    rintro e w6 ⟨xs, a, ca, rfl, rfl, hown, hb6⟩
    rw [srL_len] at hown ⊢
    have HR := Lib.hid hown
    have HB6 := Lib.hid (HB4.out.trans (hb6.mono HB4.out.size))
    have HS4 := Lib.hid HB4.out.size
    clear hown hb6
    go_wp2_with fail
    go_ret2
    refine ⟨_, _, rfl, ?_, HB6.out⟩
    rcases HR.out with hz | ⟨g, rfl, hg, hr⟩
    · exact .inl hz
    · exact .inr ⟨g, rfl, Nat.le_trans HS4.out hg, RowI.congr hr fun j hj => by
        have hj' : j < sTop n f + 1 := hj
        show (((srL n f (sTop n f + 1)).getD j 0 : Nat) : Int) = _
        rw [srL_get n f hj']⟩
set_option maxRecDepth 100000 in
theorem specSer_f (a : Option Addr) (n c : Nat) (M : Nat → Nat) (L : Nat → Nat → Nat) (f : Nat → Nat → Nat → Int) (w : World) (h : RdT w a n M L f) (hn : n ≤ 1048576) (hM : ∀ i, i < n → M i ≤ 1048576) (hL : ∀ i, i < n → ∀ j, j < M i → L i j ≤ 1048576) :
    Calls Try.prog 33 #[.agg #[.slice a n c]] w (RowRes w (nRg (ringB n M L f) (sTop n f + 1)) (fun j => (adI n f j : Nat)) (cRg (ringB n M L f))) := by
  have HI := Lib.hid (fun u (hu : Below w.heap.size w u) => l03Is_f a n c M L f u (h.below hu (Nat.le_refl _)) hn hM hL)
  clear hM hL
  cases hr : ringB n M L f
  · rw [hr] at HI
    clear h hr
    go_enter Try.func33, Try.ntmps33
    go_wp2_with fail
    refine (HI.out _ (below_alloc _ _)).mono ?_
    rintro e w1 ⟨rfl, hb⟩
    have HB := Lib.hid ((below_alloc w (.cells #[.slice a n c] 28)).trans (hb.mono (by simp)))
    have hsz : w.heap.size < w1.heap.size := by have := hb.size; simp at this; omega
    have e0 : w1.cell? ⟨w.heap.size, 0, none⟩ = some (.slice a n c) := by
      rw [hb.cell (p := ⟨w.heap.size, 0, none⟩) (by simp)]; exact cell_box _ _ _
    have E0 := Lib.hid e0
    clear hb
    go_wp2_with fail
    go_ret2
    exact rowRes_none rfl rfl HB.out
  · have HRg := Lib.hid (rng_of hr)
    obtain ⟨h0, h16, hf, hd, b, off, B, O, C, B2, O2, C2, rfl, hat⟩ := ring_open h hr
    have HAt := Lib.hid hat
    rw [hr] at HI
    clear h hd hf hr hat
    go_enter Try.func33, Try.ntmps33
    go_wp2_with fail
    refine (HI.out _ (below_alloc _ _)).mono ?_
    rintro e w1 ⟨rfl, hb⟩
    have HB := Lib.hid ((below_alloc w (.cells #[.slice (some ⟨b, off, none⟩) n c] 28)).trans (hb.mono (by simp)))
    have hsz : w.heap.size < w1.heap.size := by have := hb.size; simp at this; omega
    have e0 : w1.cell? ⟨w.heap.size, 0, none⟩ = some (.slice (some ⟨b, off, none⟩) n c) := by
      rw [hb.cell (p := ⟨w.heap.size, 0, none⟩) (by simp)]; exact cell_box _ _ _
    have E0 := Lib.hid e0
    clear hb
    go_wp2_with fail
    clear e0
    refine (l05Series_f b off n c B O C B2 O2 C2 f _ (HAt.out.below HB.out) HRg.out).mono ?_
    rintro e w6 ⟨g, cg, rfl, hgl, hrow, hb6⟩
    have HR := Lib.hid hrow
    have HG := Lib.hid (Nat.le_trans HB.out.size hgl)
    have HB6 := Lib.hid (HB.out.trans (hb6.mono HB.out.size))
    clear hrow hgl hb6
    go_wp2_with fail
    go_ret2
    exact ⟨_, _, rfl, Or.inr ⟨g, rfl, HG.out, HR.out⟩, HB6.out⟩
theorem implSer_f_rows (n : Nat) (M : Nat → Nat) (L : Nat → Nat → Nat) (f : Nat → Nat → Nat → Int) : nRg (ringB n M L f) (sTop n f + 1) ≤ 65536 := by
  unfold nRg
  cases hr : ringB n M L f
  · simp
  · have := sTop_le (rng_of hr)
    simp only [if_true]
    omega
end Go.Proofs.Ytpfodikmidgpmaa
