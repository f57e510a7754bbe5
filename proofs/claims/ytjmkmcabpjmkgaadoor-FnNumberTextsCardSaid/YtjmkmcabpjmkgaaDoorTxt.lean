/- What the walk of FnNumberTexts takes. -/
import Derived.Test.YtjmkmcabpjmkgaaDoorDrL
import Derived.Test.YtjmkmcabpjmkgaaDoorPrsY
import Derived.Test.YtjmkmcabpjmkgaaDoorNumE
namespace Go.Proofs.YtjmkmcabpjmkgaaDoor
open Go.RowKit
theorem pr_txt {a : Int} (h : numB a = true) : prV (txtN a) = a ∧ prC (txtN a) = 0 := by
  have b := numB_t h
  have := pr_eq (decT_txt a b.1 b.2) rfl
  exact ⟨this.1.symm, this.2.symm⟩
theorem pr_good {t : List UInt8} (h : prC t = 0) : numB (prV t) = true ∧ txtN (prV t) = t := by
  cases hd : decT t with
  | none => rw [← (pr_none hd).2] at h; cases h
  | some a =>
    by_cases he : txtN a = t
    · have e := pr_eq hd he
      rw [← e.1]
      obtain ⟨b0, b1⟩ := decT_bd hd
      exact ⟨by unfold numB; simp; omega, he⟩
    · rw [← (pr_ne hd he).2] at h; cases h
theorem short_back (a : Int) (hs : sq a ≠ 0) : 1 ≤ sq a ∧ sq a ≤ 166 ∧ (a * sq a - sp a) % 55441 = 0 := by
  obtain ⟨h, h1, h2⟩ := short_law a hs
  refine ⟨h1, h2, ?_⟩
  generalize a * sq a = z at *
  omega
theorem drawText_any (ca : Option Addr) (n cc : Nat) (xs : List Int) (w : World) (hR : RdB w ca n xs) (hbig : n ≤ 4096) : Calls Tryd.prog 22 #[.slice ca n cc] w fun e w' => OnePost AnInt w e w' := by
  go_enter Tryd.func22, Tryd.ntmps22
  go_wp2_with fail
  refine (l01From_any ca n cc xs _ hR hbig).mono ?_
  rintro e w1 ⟨rfl, hS1, hb1⟩
  go_wp2_with fail
  refine (l01Spoil_any _ _ hS1).mono ?_
  rintro e w2 ⟨a, ha, rfl, hS2, hO2⟩
  go_wp2_with fail
  go_ret
  exact ⟨a, ha, rfl, hb1.trans (hO2.below (Nat.le_refl _) hb1.size)⟩
end Go.Proofs.YtjmkmcabpjmkgaaDoor
