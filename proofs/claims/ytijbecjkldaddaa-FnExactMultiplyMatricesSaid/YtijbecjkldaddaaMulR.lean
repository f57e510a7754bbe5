/- MultiplyMatrices, ApplyMatrix, DotOf of both. -/
import Derived.Test.YtijbecjkldaddaaMulB
namespace Go.Proofs.Ytijbecjkldaddaa
open Go.RowKit
/-- two matrices that fit -/
def cMul (a b : Bool) (m n : Nat) : Int := if (a && b) = true then (if m = n then 0 else 2) else 1
def okMul (a b : Bool) (m n : Nat) : Bool := a && b && decide (m = n)
theorem b_small {n : Nat} (h : n ≤ 1048576) : n ≤ 9000000000 := by omega
theorem bs_small {n : Nat} {L : Nat → Nat} (h : ∀ i, i < n → L i ≤ 1048576) : ∀ i, i < n → L i ≤ 9000000000 := fun i hi => by have := h i hi; omega
theorem implMul_no (a b : Option Addr) (n m c d : Nat) (L M : Nat → Nat) (f g : Nat → Nat → Int) (w : World) (ha : RdM w a n L f) (hn : n ≤ 1048576) (hL : ∀ i, i < n → L i ≤ 1048576) (hb : RdM w b m M g) (hm : m ≤ 1048576) (hM : ∀ i, i < m → M i ≤ 1048576) (h : okMul (matB n L f) (matB m M g) (L 0) m = false) :
    Calls Try.prog 16 #[.slice a n c, .slice b m d] w fun e w' => e = .returned (.tuple #[.slice none 0 0, .int .i64 (cMul (matB n L f) (matB m M g) (L 0) m)]) ∧ w = w' := by
  have CA := Lib.hid (isMatrix_f a n c L f w ha (b_small hn) (bs_small hL))
  have CB := Lib.hid (isMatrix_f b m d M g w hb (b_small hm) (bs_small hM))
  have HA := Lib.hid ha
  cases h1 : matB n L f
  · rw [h1] at CA
    clear ha hL hb hM h h1
    go_enter Try.func16, Try.ntmps16
    go_wp2_with (first | (go_at_call 19; (with_reducible refine CA.out.mono ?_); rintro e w' ⟨rfl, rfl⟩) | (go_at_call 19; (with_reducible refine CB.out.mono ?_); rintro e w' ⟨rfl, rfl⟩))
    go_ret2
    exact ⟨rfl, rfl⟩
  · cases h2 : matB m M g
    · rw [h1] at CA
      rw [h2] at CB
      clear ha hL hb hM h h1 h2
      go_enter Try.func16, Try.ntmps16
      go_wp2_with (first | (go_at_call 19; (with_reducible refine CA.out.mono ?_); rintro e w' ⟨rfl, rfl⟩) | (go_at_call 19; (with_reducible refine CB.out.mono ?_); rintro e w' ⟨rfl, rfl⟩))
      go_ret2
      exact ⟨rfl, rfl⟩
    · rw [h1, h2] at h
      have hne : L 0 ≠ m := by intro e; simp [okMul, e] at h
      have hq : (((L 0 : Nat) : Int) != ((m : Nat) : Int)) = true := by simp; omega
      have HF := Lib.hid (show (2 : Int) = cMul true true (L 0) m by simp [cMul, hne])
      obtain ⟨d0, _⟩ := matB_dims h1
      obtain ⟨b1, off, A, C, rfl, hb1, hc⟩ := ha.open d0
      have e0 : w.cell? ⟨b1, off, none⟩ = some (.slice (A 0) (L 0) (C 0)) := by simpa using (hc 0 d0).1
      rw [h1] at CA
      rw [h2] at CB
      clear ha hL hb hM h h1 h2 hc hne
      generalize A 0 = a0 at e0
      generalize C 0 = c0 at e0
      generalize L 0 = l0 at *
      go_enter Try.func16, Try.ntmps16
      go_wp2_with (first | (go_at_call 19; (with_reducible refine CA.out.mono ?_); rintro e w' ⟨rfl, rfl⟩) | (go_at_call 19; (with_reducible refine CB.out.mono ?_); rintro e w' ⟨rfl, rfl⟩))
      go_ret2
      exact ⟨by rw [← HF.out]; rfl, rfl⟩
theorem implMul_f (a : Option Addr) (n c : Nat) (L : Nat → Nat) (f : Nat → Nat → Int) (b : Option Addr) (m d : Nat) (M : Nat → Nat) (g : Nat → Nat → Int) (w : World) (ha : RdM w a n L f) (hn : n ≤ 1048576) (hL : ∀ i, i < n → L i ≤ 1048576) (hb : RdM w b m M g) (hm : m ≤ 1048576) (hM : ∀ i, i < m → M i ≤ 1048576) :
    Calls Try.prog 16 #[.slice a n c, .slice b m d] w (TabRes w (nIf (okMul (matB n L f) (matB m M g) (L 0) m) n) (fun _ => M 0) (fun i j => vK (mulK m (kM f) (kM g) i j)) (cMul (matB n L f) (matB m M g) (L 0) m)) := by
  cases h : okMul (matB n L f) (matB m M g) (L 0) m
  · refine (implMul_no a b n m c d L M f g w ha hn hL hb hm hM h).mono ?_
    rintro e w' ⟨rfl, rfl⟩
    exact tabRes_err rfl rfl (Below.refl _ _)
  · have hh : matB n L f = true ∧ matB m M g = true ∧ L 0 = m := by simpa [okMul, and_assoc] using h
    obtain ⟨h1, h2, h3⟩ := hh
    obtain ⟨d0, d1, d2, d3, d4, d5⟩ := matB_dims h1
    obtain ⟨x0, x1, x2, x3, x4, x5⟩ := matB_dims h2
    have CA := Lib.hid (isMatrix_f a n c L f w ha (b_small hn) (bs_small hL))
    have CB := Lib.hid (isMatrix_f b m d M g w hb (b_small hm) (bs_small hM))
    rw [h1] at CA
    rw [h2] at CB
    have HF := Lib.hid (show (0 : Int) = cMul (matB n L f) (matB m M g) (L 0) m by simp [cMul, h1, h2, h3])
    have RA := Lib.hid ((ha.rect h1).toK d5)
    have RB := Lib.hid ((hb.rect h2).toK x5)
    rw [h3] at RA
    have hq : (((L 0 : Nat) : Int) != ((m : Nat) : Int)) = false := by simp; omega
    obtain ⟨b1, off, A, C, rfl, hb1, hc⟩ := ha.open d0
    have e0 : w.cell? ⟨b1, off, none⟩ = some (.slice (A 0) (L 0) (C 0)) := by simpa using (hc 0 d0).1
    clear ha hL hb hM h h1 h2 hc d4 d5 x4 x5 h3
    generalize A 0 = a0 at e0
    generalize C 0 = c0 at e0
    obtain ⟨l0, hl0⟩ : ∃ l, l = L 0 := ⟨_, rfl⟩
    rw [← hl0] at e0 hq d2 d3
    clear hl0
    obtain ⟨m0, hm0⟩ : ∃ l, l = M 0 := ⟨_, rfl⟩
    rw [← hm0] at RB x2 x3 ⊢
    clear hm0
    go_enter Try.func16, Try.ntmps16
    go_wp2_with (first | (go_at_call 19; (with_reducible refine CA.out.mono ?_); rintro e w' ⟨rfl, rfl⟩) | (go_at_call 19; (with_reducible refine CB.out.mono ?_); rintro e w' ⟨rfl, rfl⟩))
    refine (matrixOf_f _ n _ (fun _ => m) _ _ RA.out (by omega) (fun _ _ => by omega)).mono ?_
    rintro e w1 ⟨rfl, hM1, hB1, -⟩
    have HM1 := Lib.hid hM1.rd
    have HB1 := Lib.hid hB1
    clear hM1 hB1
    go_wp2_with fail
    refine (matrixOf_f _ m _ (fun _ => m0) _ _ (RB.out.below HB1.out (Nat.le_refl _)) (by omega) (fun _ _ => by omega)).mono ?_
    rintro e w2 ⟨rfl, hM2, hB2, -⟩
    have HM2 := Lib.hid hM2.rd
    have HM1' := Lib.hid (HM1.out.below hB2 (Nat.le_refl _))
    have HB2 := Lib.hid (HB1.out.trans (hB2.mono HB1.out.size))
    clear hM2 hB2 HM1 HB1
    go_wp2_with fail
    refine (times_f _ _ n m m0 _ _ (kM f) (kM g) _ HM1'.out HM2.out x0 (by omega) (by omega) (by omega)).mono ?_
    rintro e w3 ⟨b3, cp, C3, G3, y1, y2, rfl, hM3, hB3⟩
    have HM3 := Lib.hid hM3.rd
    have HB3 := Lib.hid (HB2.out.trans (hB3.mono HB2.out.size))
    clear hM3 hB3 HM2 HM1' HB2 y1 y2
    go_wp2_with fail
    refine (integers_f _ n _ (fun _ => m0) _ _ HM3.out (by omega) (fun i hi => by omega)).mono ?_
    rintro e w4 ⟨rfl, hM4, hB4, -⟩
    have HM4 := Lib.hid hM4
    have HB4 := Lib.hid (HB3.out.trans (hB4.mono HB3.out.size))
    clear hM4 hB4
    go_wp2_with fail
    go_ret2
    exact ⟨_, _, by rw [← HF.out]; rfl, own_of_matB (HM4.out.mono HB3.out.size), HB4.out⟩
theorem implMul_f_rows (n : Nat) (L : Nat → Nat) (f : Nat → Nat → Int) (m : Nat) (M : Nat → Nat) (g : Nat → Nat → Int) : nIf (okMul (matB n L f) (matB m M g) (L 0) m) n ≤ 64 := by
  unfold nIf
  split
  · rename_i h
    have hh : matB n L f = true ∧ matB m M g = true ∧ L 0 = m := by simpa [okMul, and_assoc] using h
    have := matB_dims hh.1; omega
  · omega
theorem implMul_f_cols (n : Nat) (L : Nat → Nat) (f : Nat → Nat → Int) (m : Nat) (M : Nat → Nat) (g : Nat → Nat → Int) : ∀ i, i < nIf (okMul (matB n L f) (matB m M g) (L 0) m) n → M 0 ≤ 64 := by
  unfold nIf
  split
  · rename_i h
    have hh : matB n L f = true ∧ matB m M g = true ∧ L 0 = m := by simpa [okMul, and_assoc] using h
    have := matB_dims hh.2.1; omega
  · intro i hi; omega
theorem specMul_f (a : Option Addr) (n c : Nat) (L : Nat → Nat) (f : Nat → Nat → Int) (b : Option Addr) (m d : Nat) (M : Nat → Nat) (g : Nat → Nat → Int) (w : World) (ha : RdM w a n L f) (hn : n ≤ 1048576) (hL : ∀ i, i < n → L i ≤ 1048576) (hb : RdM w b m M g) (hm : m ≤ 1048576) (hM : ∀ i, i < m → M i ≤ 1048576) :
    Calls Try.prog 17 #[.slice a n c, .slice b m d] w (TabRes w (nIf (okMul (matB n L f) (matB m M g) (L 0) m) n) (fun _ => M 0) (fun i j => vK (mulK m (kM f) (kM g) i j)) (cMul (matB n L f) (matB m M g) (L 0) m)) := by
  have CA := Lib.hid (l02Is_f a n c L f w ha (b_small hn) (bs_small hL))
  have CB := Lib.hid (fun u (hu : Drawn w u) => l02Is_f b m d M g u (hb.below hu.below (Nat.le_refl _)) (b_small hm) (bs_small hM))
  cases h1 : matB n L f
  · rw [h1] at CA
    clear ha hL hb hM h1
    go_enter Try.func17, Try.ntmps17
    go_wp2_with fail
    refine CA.out.mono ?_
    rintro e w' ⟨rfl, hd⟩
    go_wp2_with fail
    go_ret2
    exact tabRes_err rfl rfl hd.below
  · cases h2 : matB m M g
    · rw [h1] at CA
      rw [h2] at CB
      clear ha hL hb hM h1 h2
      go_enter Try.func17, Try.ntmps17
      go_wp2_with fail
      refine CA.out.mono ?_
      rintro e w' ⟨rfl, hd⟩
      have HD := Lib.hid hd
      clear hd
      go_wp2_with fail
      refine (CB.out _ HD.out).mono ?_
      rintro e w2 ⟨rfl, hd⟩
      go_wp2_with fail
      go_ret2
      exact tabRes_err rfl rfl (HD.out.below.trans (hd.below.mono (HD.out.below (B := w.heap.size)).size))
    · obtain ⟨d0, d1, d2, d3, d4, d5⟩ := matB_dims h1
      obtain ⟨x0, x1, x2, x3, x4, x5⟩ := matB_dims h2
      have HF := Lib.hid (show cMul true true (L 0) m = (if L 0 = m then 0 else 2) by simp [cMul])
      have HG := Lib.hid (show okMul true true (L 0) m = decide (L 0 = m) by simp [okMul])
      have RA := Lib.hid ((ha.rect h1).toK d5)
      have RB := Lib.hid ((hb.rect h2).toK x5)
      obtain ⟨b1, off, A, C, rfl, hb1, hc⟩ := ha.open d0
      have e0 := Lib.hid (show w.cell? ⟨b1, off, none⟩ = some (.slice (A 0) (L 0) (C 0)) by simpa using (hc 0 d0).1)
      rw [h1] at CA
      rw [h2] at CB
      clear ha hL hb hM h1 h2 d4 d5 x4 x5 hc
      generalize A 0 = a0 at e0
      generalize C 0 = c0 at e0
      obtain ⟨l0, hl0⟩ : ∃ l, l = L 0 := ⟨_, rfl⟩
      rw [← hl0] at e0 HF HG RA d2 d3 ⊢
      clear hl0
      obtain ⟨m0, hm0⟩ : ∃ l, l = M 0 := ⟨_, rfl⟩
      rw [← hm0] at RB x2 x3 ⊢
      clear hm0
      by_cases hlm : l0 = m
      · have HC := Lib.hid (show cMul true true l0 m = 0 by rw [HF.out, if_pos hlm])
        have HN := Lib.hid (show nIf (okMul true true l0 m) n = n by rw [HG.out]; simp [hlm, nIf])
        have hq : ((l0 : Int) != (m : Int)) = false := by simp; omega
        rw [hlm] at RA
        clear hlm
        rw [HC.out, HN.out]
        go_enter Try.func17, Try.ntmps17
        go_wp2_with fail
        refine CA.out.mono ?_
        rintro e w1 ⟨rfl, hd⟩
        have HD := Lib.hid hd
        clear hd
        go_wp2_with fail
        refine (CB.out _ HD.out).mono ?_
        rintro e w2 ⟨rfl, hd⟩
        have HB := Lib.hid (show Below w.heap.size w w2 from HD.out.below.trans (hd.below.mono (HD.out.below (B := w.heap.size)).size))
        have e1 : w2.cell? ⟨b1, off, none⟩ = some (.slice a0 l0 c0) := by rw [HB.out.cell (p := ⟨b1, off, none⟩) hb1]; exact e0.out
        clear hd HD
        go_wp2_with fail
        refine (l02Times_f _ _ n m m0 _ _ (kM f) (kM g) _ (RA.out.below HB.out (Nat.le_refl _)) (RB.out.below HB.out (Nat.le_refl _)) x0 (by omega) (by omega) (by omega)).mono ?_
        rintro e w3 ⟨b3, cp, C3, G3, y1, y2, rfl, hM3, hB3⟩
        have HM3 := Lib.hid hM3
        have HB3 := Lib.hid (HB.out.trans (hB3.mono HB.out.size))
        clear hM3 hB3
        go_wp2_with fail
        go_ret2
        exact ⟨_, _, rfl, own_of_matB (HM3.out.mono HB.out.size), HB3.out⟩
      · have HC := Lib.hid (show cMul true true l0 m = 2 by rw [HF.out, if_neg hlm])
        have HN := Lib.hid (show nIf (okMul true true l0 m) n = 0 by rw [HG.out]; simp [hlm, nIf])
        have hq : ((l0 : Int) != (m : Int)) = true := by simp; omega
        clear hlm
        rw [HC.out, HN.out]
        go_enter Try.func17, Try.ntmps17
        go_wp2_with fail
        refine CA.out.mono ?_
        rintro e w1 ⟨rfl, hd⟩
        have HD := Lib.hid hd
        clear hd
        go_wp2_with fail
        refine (CB.out _ HD.out).mono ?_
        rintro e w2 ⟨rfl, hd⟩
        have HB := Lib.hid (show Below w.heap.size w w2 from HD.out.below.trans (hd.below.mono (HD.out.below (B := w.heap.size)).size))
        have e1 : w2.cell? ⟨b1, off, none⟩ = some (.slice a0 l0 c0) := by rw [HB.out.cell (p := ⟨b1, off, none⟩) hb1]; exact e0.out
        clear hd HD
        go_wp2_with fail
        go_ret2
        exact tabRes_err rfl rfl HB.out
end Go.Proofs.Ytijbecjkldaddaa
