/- InverseMatrix of the specification. -/
import Derived.Test.YtaffdoihmalilaaInvS
namespace Go.Proofs.Ytaffdoihmalilaa
open Go.RowKit
set_option linter.unusedSimpArgs false
theorem mulK_ne {x y : K} (hx : x ≠ 0) (hy : y ≠ 0) : x * y ≠ 0 := fun e => hx (by
  have h := kInv_mul hy
  have h2 : x * y * kInv y = 0 := by rw [e]; grind
  have h3 : x * y * kInv y = x * (y * kInv y) := by grind
  rw [h3, h] at h2
  grind)
theorem negK_ne {x : K} (hx : x ≠ 0) : -x ≠ 0 := fun e => hx (by grind)
theorem gau_factor (n : Nat) (F : Mat) : ∀ k, (gau n F k).2.2 ≠ 0 := by
  intro k
  induction k with
  | zero => show (1 : K) ≠ 0; decide
  | succ k ih =>
    by_cases h : piv (gau n F k).1 n k (gau n F k).2.1 < n
    · rw [gau_yes h]
      have hr := (gau_rank n F k).2
      have hp := (piv_spec (gau n F k).1 n k _ _ rfl hr).2.2.2 h
      refine mulK_ne ?_ hp
      split
      · exact negK_ne ih
      · exact ih
    · rw [gau_no h]; exact ih
theorem detK_zero {n : Nat} {F : Mat} : detK n F = 0 ↔ (gau n F n).2.1 < n := by
  unfold detK
  by_cases h : (gau n F n).2.1 < n
  · simp [h]
  · simp only [if_neg h]
    exact ⟨fun e => absurd e (gau_factor n F n), fun e => absurd e h⟩
theorem specInv_f (a : Option Addr) (n c : Nat) (L : Nat → Nat) (f : Nat → Nat → Int) (w : World) (h : RdM w a n L f) (hn : n ≤ 1048576) (hL : ∀ i, i < n → L i ≤ 1048576) :
    Calls Try.prog 20 #[.slice a n c] w (TabRes w (nIf (okInv n L f) n) (fun _ => n) (fun i j => vK (invK n (kM f) i j)) (cInv n L f)) := by
  have HE := Lib.hid (l02Square_f a n c L f w h hn hL)
  cases hs : sqB n L f
  · obtain ⟨hne, hne'⟩ := cSq_ne' hs
    have HC := Lib.hid (show cInv n L f = cSq n L f by simp [cInv, hs])
    have HN := Lib.hid (show nIf (okInv n L f) n = 0 by simp [okInv, hs, nIf])
    rw [HC.out, HN.out]
    clear h hL hs
    generalize cSq n L f = cd at *
    go_enter Try.func20, Try.ntmps20
    go_wp2_with fail
    refine HE.out.mono ?_
    rintro e w' ⟨rfl, hd⟩
    have HD := Lib.hid hd
    clear hd
    go_wp2_with fail
    go_ret2
    exact tabRes_err rfl rfl HD.out.below
  · obtain ⟨hm, hnl, d0, d1, d5⟩ := sqB_t hs
    have HR := h.rect hm
    rw [← hnl] at HR
    have HR := Lib.hid (HR.toK d5)
    rw [cSq_yes hs] at HE
    have HS := Lib.hid hs
    clear h hL hs hm hnl d5
    obtain ⟨z, hz⟩ : ∃ z, z = vK (detK n (kM f)) := ⟨_, rfl⟩
    have HDet := Lib.hid (fun u (hu : Below w.heap.size w u) => l02Det_f a n c (kM f) u (HR.out.below hu (Nat.le_refl _)) d0 (by omega))
    rw [← hz] at HDet
    have HZ := Lib.hid hz
    clear hz
    by_cases hr : (gau n (kM f) n).2.1 < n
    · have hz0 : z = 0 := by rw [HZ.out, detK_zero.2 hr]; rfl
      have HC := Lib.hid (show cInv n L f = 5 by simp [cInv, HS.out, hr])
      have HN := Lib.hid (show nIf (okInv n L f) n = 0 by simp [okInv, HS.out, nIf, hr])
      rw [HC.out, HN.out]
      have hb : (z == 0) = true := by simp [hz0]
      clear hr hz0
      go_enter Try.func20, Try.ntmps20
      go_wp2_with fail
      refine HE.out.mono ?_
      rintro e w1 ⟨rfl, hd⟩
      have HD := Lib.hid (hd.below (B := w.heap.size))
      clear hd
      go_wp2_with fail
      refine (HDet.out _ HD.out).mono ?_
      rintro e w2 ⟨rfl, hB⟩
      have HB := Lib.hid (HD.out.trans (hB.mono HD.out.size))
      clear hB
      go_wp2_with fail
      go_ret2
      exact tabRes_err rfl rfl HB.out
    · have hz0 : z ≠ 0 := fun e => hr (detK_zero.1 (vK_inj (by rw [← HZ.out]; exact e)))
      have HC := Lib.hid (show cInv n L f = 0 by simp [cInv, HS.out, hr])
      have HN := Lib.hid (show nIf (okInv n L f) n = n by simp [okInv, HS.out, nIf, hr])
      rw [HC.out, HN.out]
      have hb : (z == 0) = false := by simpa using hz0
      clear hr hz0
      go_enter Try.func20, Try.ntmps20
      go_wp2_with fail
      refine HE.out.mono ?_
      rintro e w1 ⟨rfl, hd⟩
      have HD := Lib.hid (hd.below (B := w.heap.size))
      clear hd
      go_wp2_with fail
      refine (HDet.out _ HD.out).mono ?_
      rintro e w2 ⟨rfl, hB⟩
      have HB := Lib.hid (HD.out.trans (hB.mono HD.out.size))
      clear hB
      go_wp2_with fail
      refine (l02Inverse_f a n c (kM f) _ (HR.out.below HB.out (Nat.le_refl _)) d0 (by omega)).mono ?_
      rintro e w3 ⟨b3, c3, C3, G3, y1, y2, rfl, hM, hB⟩
      have HM := Lib.hid hM
      have HB3 := Lib.hid (HB.out.trans (hB.mono HB.out.size))
      clear hM hB
      go_wp2_with fail
      go_ret2
      exact ⟨_, _, rfl, own_of_matB (HM.out.mono HB.out.size), HB3.out⟩
end Go.Proofs.Ytaffdoihmalilaa
