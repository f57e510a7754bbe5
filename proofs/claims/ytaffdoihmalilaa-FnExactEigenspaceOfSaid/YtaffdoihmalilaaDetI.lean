/- Determinant of the program. -/
import Derived.Test.YtaffdoihmalilaaSpn
namespace Go.Proofs.Ytaffdoihmalilaa
open Go.RowKit
set_option linter.unusedSimpArgs false
theorem implDet_f (a : Option Addr) (n c : Nat) (L : Nat → Nat) (f : Nat → Nat → Int) (w : World) (h : RdM w a n L f) (hn : n ≤ 1048576) (hL : ∀ i, i < n → L i ≤ 1048576) :
    Calls Try.prog 18 #[.slice a n c] w (IntRes w (vIf (sqB n L f) (vK (detK n (kM f)))) (cSq n L f)) := by
  cases hs : sqB n L f
  · have HE := Lib.hid (readSquare_no a n c L f w h hn hL hs)
    have hne : (cSq n L f != 0) = true := by rcases cSq_no hs with ⟨e, _⟩ | ⟨e, _⟩ <;> rw [e] <;> rfl
    clear h hL hs
    generalize cSq n L f = cd at *
    go_enter Try.func18, Try.ntmps18
    go_wp2_with fail
    refine HE.out.mono ?_
    rintro e w' ⟨rfl, hB⟩
    go_wp2_with fail
    go_ret2
    exact ⟨rfl, hB⟩
  · have HE := Lib.hid (readSquare_yes a n c L f w h hs)
    rw [cSq_yes hs]
    obtain ⟨-, -, d0, d1, -⟩ := sqB_t hs
    clear h hL hs
    go_enter Try.func18, Try.ntmps18
    go_wp2_with fail
    refine HE.out.mono ?_
    rintro e w1 ⟨rfl, hM, hB⟩
    have HM := Lib.hid hM.rd
    have HB := Lib.hid hB
    clear hM hB
    go_wp2_with fail
    refine (determinant_f _ n _ (kM f) _ HM.out d0 (by omega)).mono ?_
    rintro e w2 ⟨rfl, hB2⟩
    have HB2 := Lib.hid (HB.out.trans (hB2.mono HB.out.size))
    clear hB2
    go_wp2_with fail
    go_ret2
    exact ⟨rfl, HB2.out⟩
end Go.Proofs.Ytaffdoihmalilaa
