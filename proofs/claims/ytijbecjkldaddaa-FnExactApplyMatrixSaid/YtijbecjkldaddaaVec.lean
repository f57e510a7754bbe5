/- DotOf and ApplyMatrix of both. -/
import Derived.Test.YtijbecjkldaddaaMulB
import Derived.Test.YtijbecjkldaddaaSqr
namespace Go.Proofs.Ytijbecjkldaddaa
open Go.RowKit
/-- may the sum of products be taken? -/
def dotOkB (n m : Nat) (f g : Nat → Int) : Bool := decide (n = m) && decide (n ≤ 64) && allB n f && allB m g
def cDotI (b : Bool) : Int := if b then 0 else 2
theorem dotOkB_t {n m : Nat} {f g : Nat → Int} (h : dotOkB n m f g = true) : n = m ∧ n ≤ 64 ∧ allB n f = true ∧ allB m g = true := by
  simpa [dotOkB, and_assoc] using h
theorem implDotOf_f (a : Option Addr) (n c : Nat) (f : Nat → Int) (b : Option Addr) (m d : Nat) (g : Nat → Int) (w : World) (ha : RdR w a n f) (hn : n ≤ 1048576) (hb : RdR w b m g) (hm : m ≤ 1048576) :
    Calls Try.prog 46 #[.slice a n c, .slice b m d] w (IntRes w (vIf (dotOkB n m f g) (vK (sumK n (fun i => kV f i * kV g i)))) (cDotI (dotOkB n m f g))) := by
  have CA := Lib.hid (areNumbers_f a n c f w ha (by omega))
  have CB := Lib.hid (areNumbers_f b m d g w hb (by omega))
  have HA := Lib.hid ha
  have HB := Lib.hid hb
  clear ha hb
  by_cases e1 : n = m
  · have q1 : ((n : Int) != (m : Int)) = false := by simp; omega
    by_cases e2 : 64 < n
    · have q2 : decide (64 < (n : Int)) = true := by simp; omega
      have HF := Lib.hid (show dotOkB n m f g = false by simp [dotOkB]; omega)
      rw [HF.out]
      clear e1
      go_enter Try.func46, Try.ntmps46
      go_wp2_with fail
      go_ret2
      exact ⟨rfl, Below.refl _ _⟩
    · have q2 : decide (64 < (n : Int)) = false := by simp; omega
      cases e3 : allB n f
      · have HF := Lib.hid (show dotOkB n m f g = false by simp [dotOkB, e3])
        rw [HF.out]
        rw [e3] at CA
        clear e1
        go_enter Try.func46, Try.ntmps46
        go_wp2_with fail
        refine CA.out.mono ?_
        rintro e w' ⟨rfl, rfl⟩
        go_wp2_with fail
        go_ret2
        exact ⟨rfl, Below.refl _ _⟩
      · rw [e3] at CA
        cases e4 : allB m g
        · have HF := Lib.hid (show dotOkB n m f g = false by simp [dotOkB, e4])
          rw [HF.out]
          rw [e4] at CB
          clear e1
          go_enter Try.func46, Try.ntmps46
          go_wp2_with fail
          refine CA.out.mono ?_
          rintro e w' ⟨rfl, rfl⟩
          go_wp2_with fail
          refine CB.out.mono ?_
          rintro e w' ⟨rfl, rfl⟩
          go_wp2_with fail
          go_ret2
          exact ⟨rfl, Below.refl _ _⟩
        · have HF := Lib.hid (show dotOkB n m f g = true by unfold dotOkB; rw [e3, e4, decide_eq_true e1, decide_eq_true (show n ≤ 64 by omega)]; rfl)
          rw [HF.out]
          rw [e4] at CB
          have RA := Lib.hid (HA.out.toK (allB_t e3))
          have RB := Lib.hid (HB.out.toK (allB_t e4))
          rw [← e1] at RB CB q1 ⊢
          clear e1 e3 e4 HF HA HB hm
          go_enter Try.func46, Try.ntmps46
          go_wp2_with fail
          refine CA.out.mono ?_
          rintro e w' ⟨rfl, rfl⟩
          go_wp2_with fail
          refine CB.out.mono ?_
          rintro e w' ⟨rfl, rfl⟩
          go_wp2_with fail
          refine (numbersOf_f a n c _ _ RA.out (by omega)).mono ?_
          rintro e w1 ⟨rfl, h1, b1, -⟩
          have H1 := Lib.hid h1.rd
          have B1 := Lib.hid b1
          clear h1 b1
          go_wp2_with fail
          refine (numbersOf_f b n d _ _ (RB.out.below B1.out (Nat.le_refl _)) (by omega)).mono ?_
          rintro e w2 ⟨rfl, h2, b2, -⟩
          have H2 := Lib.hid h2.rd
          have H1' := Lib.hid (H1.out.below b2 (Nat.le_refl _))
          have B2 := Lib.hid (B1.out.trans (b2.mono B1.out.size))
          clear h2 b2
          go_wp2_with fail
          refine (dot_f _ _ n _ _ (kV f) (kV g) _ H1'.out H2.out (by omega)).mono ?_
          rintro e w3 ⟨rfl, hd⟩
          have B3 := Lib.hid (B2.out.trans (hd.below (B := w.heap.size)))
          clear hd
          go_wp2_with fail
          go_ret2
          exact ⟨rfl, B3.out⟩
  · have q1 : ((n : Int) != (m : Int)) = true := by simp; omega
    have HF := Lib.hid (show dotOkB n m f g = false by simp [dotOkB, e1])
    rw [HF.out]
    clear e1
    go_enter Try.func46, Try.ntmps46
    go_wp2_with fail
    go_ret2
    exact ⟨rfl, Below.refl _ _⟩
theorem specDotOf_f (a : Option Addr) (n c : Nat) (f : Nat → Int) (b : Option Addr) (m d : Nat) (g : Nat → Int) (w : World) (ha : RdR w a n f) (hn : n ≤ 1048576) (hb : RdR w b m g) (hm : m ≤ 1048576) :
    Calls Try.prog 44 #[.slice a n c, .slice b m d] w (IntRes w (vIf (dotOkB n m f g) (vK (sumK n (fun i => kV f i * kV g i)))) (cDotI (dotOkB n m f g))) := by
  have CA := Lib.hid (l01Numbers_f a n c f w ha (by omega))
  have CB := Lib.hid (l01Numbers_f b m d g w hb (by omega))
  have HA := Lib.hid ha
  have HB := Lib.hid hb
  clear ha hb
  by_cases e1 : n = m
  · have q1 : ((n : Int) != (m : Int)) = false := by simp; omega
    by_cases e2 : 64 < n
    · have q2 : decide (64 < (n : Int)) = true := by simp; omega
      have HF := Lib.hid (show dotOkB n m f g = false by simp [dotOkB]; omega)
      rw [HF.out]
      clear e1
      go_enter Try.func44, Try.ntmps44
      go_wp2_with fail
      go_ret2
      exact ⟨rfl, Below.refl _ _⟩
    · have q2 : decide (64 < (n : Int)) = false := by simp; omega
      cases e3 : allB n f
      · have HF := Lib.hid (show dotOkB n m f g = false by simp [dotOkB, e3])
        rw [HF.out]
        rw [e3] at CA
        clear e1
        go_enter Try.func44, Try.ntmps44
        go_wp2_with fail
        refine CA.out.mono ?_
        rintro e w' ⟨rfl, rfl⟩
        go_wp2_with fail
        go_ret2
        exact ⟨rfl, Below.refl _ _⟩
      · rw [e3] at CA
        cases e4 : allB m g
        · have HF := Lib.hid (show dotOkB n m f g = false by simp [dotOkB, e4])
          rw [HF.out]
          rw [e4] at CB
          clear e1
          go_enter Try.func44, Try.ntmps44
          go_wp2_with fail
          refine CA.out.mono ?_
          rintro e w' ⟨rfl, rfl⟩
          go_wp2_with fail
          refine CB.out.mono ?_
          rintro e w' ⟨rfl, rfl⟩
          go_wp2_with fail
          go_ret2
          exact ⟨rfl, Below.refl _ _⟩
        · have HF := Lib.hid (show dotOkB n m f g = true by unfold dotOkB; rw [e3, e4, decide_eq_true e1, decide_eq_true (show n ≤ 64 by omega)]; rfl)
          rw [HF.out]
          rw [e4] at CB
          have RA := Lib.hid (HA.out.toK (allB_t e3))
          have RB := Lib.hid (HB.out.toK (allB_t e4))
          rw [← e1] at RB CB q1 ⊢
          clear e1 e3 e4 HF HA HB hm
          go_enter Try.func44, Try.ntmps44
          go_wp2_with fail
          refine CA.out.mono ?_
          rintro e w' ⟨rfl, rfl⟩
          go_wp2_with fail
          refine CB.out.mono ?_
          rintro e w' ⟨rfl, rfl⟩
          go_wp2_with fail
          refine (l01Dot_f _ _ n _ _ (kV f) (kV g) _ RA.out RB.out (by omega)).mono ?_
          rintro e w3 ⟨rfl, hd⟩
          have HD := Lib.hid hd
          clear hd
          go_wp2_with fail
          go_ret2
          exact ⟨rfl, HD.out.below⟩
  · have q1 : ((n : Int) != (m : Int)) = true := by simp; omega
    have HF := Lib.hid (show dotOkB n m f g = false by simp [dotOkB, e1])
    rw [HF.out]
    clear e1
    go_enter Try.func44, Try.ntmps44
    go_wp2_with fail
    go_ret2
    exact ⟨rfl, Below.refl _ _⟩
end Go.Proofs.Ytijbecjkldaddaa
