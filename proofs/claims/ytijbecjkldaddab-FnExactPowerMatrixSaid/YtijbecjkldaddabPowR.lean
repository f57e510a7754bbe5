/- PowerMatrix of both. -/
import Derived.Test.YtijbecjkldaddabPow
import Derived.Test.YtijbecjkldaddabNumA
namespace Go.Proofs.Ytijbecjkldaddab
open Go.RowKit
def okPow (n : Nat) (L : Nat → Nat) (f : Nat → Nat → Int) (k : Int) : Bool := sqB n L f && inB 0 1000000 k
def cPowM (n : Nat) (L : Nat → Nat) (f : Nat → Nat → Int) (k : Int) : Int := if sqB n L f = true then (if inB 0 1000000 k = true then 0 else 2) else cSq n L f
theorem cSq_ne {n : Nat} {L : Nat → Nat} {f : Nat → Nat → Int} (h : sqB n L f = false) : (cSq n L f != 0) = true ∧ (cSq n L f == 0) = false := by
  rcases cSq_no h with ⟨e, _⟩ | ⟨e, _⟩ <;> rw [e] <;> exact ⟨rfl, rfl⟩
theorem implPower_f (a : Option Addr) (n c : Nat) (L : Nat → Nat) (f : Nat → Nat → Int) (k : Int) (w : World) (h : RdM w a n L f) (hn : n ≤ 1048576) (hL : ∀ i, i < n → L i ≤ 1048576) (_wf : (Lit.int .i64 k).wf = true) :
    Calls Try.prog 14 #[.slice a n c, .int .i64 k] w (TabRes w (nIf (okPow n L f k) n) (fun _ => n) (fun i j => vK (powIt n unitK (kM f) k.toNat i j)) (cPowM n L f k)) := by
  cases hs : sqB n L f
  · have HE := Lib.hid (readSquare_no a n c L f w h hn hL hs)
    obtain ⟨hne, hne'⟩ := cSq_ne hs
    have HC := Lib.hid (show cPowM n L f k = cSq n L f by simp [cPowM, hs])
    have HN := Lib.hid (show nIf (okPow n L f k) n = 0 by simp [okPow, hs, nIf])
    rw [HC.out, HN.out]
    clear h hL hs
    generalize cSq n L f = cd at *
    go_enter Try.func14, Try.ntmps14
    go_wp2_with fail
    refine HE.out.mono ?_
    rintro e w' ⟨rfl, hB⟩
    have HB := Lib.hid hB
    clear hB
    go_wp2_with fail
    go_ret2
    exact tabRes_err rfl rfl HB.out
  · have HE := Lib.hid (readSquare_yes a n c L f w h hs)
    obtain ⟨-, -, d0, d1, -⟩ := sqB_t hs
    by_cases hk : 0 ≤ k ∧ k ≤ 1000000
    · obtain ⟨k0, k1⟩ := hk
      have hd0 : decide (k < 0) = false := by simp; omega
      have hd1 : decide (1000000 < k) = false := by simp; omega
      have HC := Lib.hid (show cPowM n L f k = 0 by simp [cPowM, hs, inB_mk k0 k1])
      have HN := Lib.hid (show nIf (okPow n L f k) n = n by simp [okPow, hs, nIf, inB_mk k0 k1])
      rw [HC.out, HN.out]
      clear h hL hs
      go_enter Try.func14, Try.ntmps14
      go_wp2_with fail
      refine HE.out.mono ?_
      rintro e w1 ⟨rfl, hM, hB⟩
      have HM := Lib.hid hM.rd
      have HB := Lib.hid hB
      clear hM hB
      go_wp2_with fail
      refine (power_f _ n n (kM f) k _ HM.out d0 (by omega) k0 k1).mono ?_
      rintro e w2 ⟨b2, c2, C2, G2, y1, y2, rfl, hM2, hB2⟩
      have HM2 := Lib.hid hM2.rd
      have HB2 := Lib.hid (HB.out.trans (hB2.mono HB.out.size))
      clear hM2 hB2 y1 y2
      go_wp2_with fail
      refine (integers_f _ n _ (fun _ => n) _ _ HM2.out (by omega) (fun i hi => by omega)).mono ?_
      rintro e w3 ⟨rfl, hM3, hB3, -⟩
      have HM3 := Lib.hid hM3
      have HB3 := Lib.hid (HB2.out.trans (hB3.mono HB2.out.size))
      clear hM3 hB3
      go_wp2_with fail
      go_ret2
      exact ⟨_, _, rfl, own_of_matB (HM3.out.mono HB2.out.size), HB3.out⟩
    · have HC := Lib.hid (show cPowM n L f k = 2 by simp [cPowM, hs, inB_no (show k < 0 ∨ 1000000 < k by omega)])
      have HN := Lib.hid (show nIf (okPow n L f k) n = 0 by simp [okPow, hs, nIf, inB_no (show k < 0 ∨ 1000000 < k by omega)])
      rw [HC.out, HN.out]
      clear h hL hs
      by_cases hk0 : k < 0
      · have hd0 : decide (k < 0) = true := by simp; omega
        go_enter Try.func14, Try.ntmps14
        go_wp2_with fail
        refine HE.out.mono ?_
        rintro e w1 ⟨rfl, hM, hB⟩
        have HB := Lib.hid hB
        clear hM hB
        go_wp2_with fail
        go_ret2
        exact tabRes_err rfl rfl HB.out
      · have hd0 : decide (k < 0) = false := by simp; omega
        have hd1 : decide (1000000 < k) = true := by simp; omega
        go_enter Try.func14, Try.ntmps14
        go_wp2_with fail
        refine HE.out.mono ?_
        rintro e w1 ⟨rfl, hM, hB⟩
        have HB := Lib.hid hB
        clear hM hB
        go_wp2_with fail
        go_ret2
        exact tabRes_err rfl rfl HB.out
theorem implPower_f_rows (n : Nat) (L : Nat → Nat) (f : Nat → Nat → Int) (k : Int) : nIf (okPow n L f k) n ≤ 64 := by
  unfold nIf
  split
  · rename_i h
    have hh : sqB n L f = true := by simp [okPow] at h; exact h.1
    obtain ⟨-, -, d0, d1, -⟩ := sqB_t hh
    omega
  · omega
theorem implPower_f_cols (n : Nat) (L : Nat → Nat) (f : Nat → Nat → Int) (k : Int) : ∀ i, i < nIf (okPow n L f k) n → n ≤ 64 := by
  unfold nIf
  split
  · rename_i h
    have hh : sqB n L f = true := by simp [okPow] at h; exact h.1
    obtain ⟨-, -, d0, d1, -⟩ := sqB_t hh
    omega
  · intro i hi; omega
theorem specPower_f (a : Option Addr) (n c : Nat) (L : Nat → Nat) (f : Nat → Nat → Int) (k : Int) (w : World) (h : RdM w a n L f) (hn : n ≤ 1048576) (hL : ∀ i, i < n → L i ≤ 1048576) (_wf : (Lit.int .i64 k).wf = true) :
    Calls Try.prog 12 #[.slice a n c, .int .i64 k] w (TabRes w (nIf (okPow n L f k) n) (fun _ => n) (fun i j => vK (powIt n unitK (kM f) k.toNat i j)) (cPowM n L f k)) := by
  have HE := Lib.hid (l02Square_f a n c L f w h hn hL)
  cases hs : sqB n L f
  · obtain ⟨hne, hne'⟩ := cSq_ne hs
    have HC := Lib.hid (show cPowM n L f k = cSq n L f by simp [cPowM, hs])
    have HN := Lib.hid (show nIf (okPow n L f k) n = 0 by simp [okPow, hs, nIf])
    rw [HC.out, HN.out]
    clear h hL hs
    generalize cSq n L f = cd at *
    go_enter Try.func12, Try.ntmps12
    go_wp2_with fail
    refine HE.out.mono ?_
    rintro e w' ⟨rfl, hd⟩
    have HD := Lib.hid hd
    clear hd
    go_wp2_with fail
    go_ret2
    exact tabRes_err rfl rfl HD.out.below
  · obtain ⟨hm, hnl, d0, d1, d5⟩ := sqB_t hs
    have HR := h.rect hm
    rw [← hnl] at HR
    have HR := Lib.hid (HR.toK d5)
    have hz := cSq_yes hs
    rw [hz] at HE
    cases hk : inB 0 1000000 k
    · have HC := Lib.hid (show cPowM n L f k = 2 by simp [cPowM, hs, hk])
      have HN := Lib.hid (show nIf (okPow n L f k) n = 0 by simp [okPow, hs, nIf, hk])
      rw [HC.out, HN.out]
      clear h hL hs hz hm hnl d5
      go_enter Try.func12, Try.ntmps12
      go_wp2_with fail
      refine HE.out.mono ?_
      rintro e w1 ⟨rfl, hd⟩
      have HD := Lib.hid hd
      clear hd
      go_wp2_with (go_at_call 42; refine (l01In_any _ _ _ _).mono ?_; rintro e w' ⟨rfl, rfl⟩)
      go_ret2
      exact tabRes_err rfl rfl HD.out.below
    · have HC := Lib.hid (show cPowM n L f k = 0 by simp [cPowM, hs, hk])
      have HN := Lib.hid (show nIf (okPow n L f k) n = n by simp [okPow, hs, nIf, hk])
      rw [HC.out, HN.out]
      obtain ⟨k0, k1⟩ := inB_t hk
      clear h hL hs hz hm hnl d5
      go_enter Try.func12, Try.ntmps12
      go_wp2_with fail
      refine HE.out.mono ?_
      rintro e w1 ⟨rfl, hd⟩
      have HD := Lib.hid hd
      clear hd
      go_wp2_with (go_at_call 42; refine (l01In_any _ _ _ _).mono ?_; rintro e w' ⟨rfl, rfl⟩)
      refine (l02Power_f _ n _ (kM f) k _ (HR.out.below HD.out.below (Nat.le_refl _)) d0 (by omega) k0 k1).mono ?_
      rintro e w2 ⟨b2, c2, C2, G2, y1, y2, rfl, hM2, hB2⟩
      have HB0 := Lib.hid (HD.out.below (B := w.heap.size))
      have HM2 := Lib.hid hM2
      have HB2 := Lib.hid (HB0.out.trans (hB2.mono HB0.out.size))
      clear hM2 hB2
      go_wp2_with fail
      go_ret2
      exact ⟨_, _, rfl, own_of_matB (HM2.out.mono HB0.out.size), HB2.out⟩
end Go.Proofs.Ytijbecjkldaddab
