/- ApplyMatrix of both. -/
import Derived.Test.YtijbecjkldaddaaVec
import Derived.Test.YtijbecjkldaddaaAcc
namespace Go.Proofs.Ytijbecjkldaddaa
open Go.RowKit
def okApp (n : Nat) (L : Nat → Nat) (f : Nat → Nat → Int) (m : Nat) (g : Nat → Int) : Bool := matB n L f && (decide (m = L 0) && allB m g)
def cApp (n : Nat) (L : Nat → Nat) (f : Nat → Nat → Int) (m : Nat) (g : Nat → Int) : Int := if matB n L f = true then (if (decide (m = L 0) && allB m g) = true then 0 else 2) else 1
theorem rowRes_err {w w' : World} {f : Nat → Int} {n : Nat} {c c' : Int} (hn : n = 0) (hc : c' = c) (hb : Below w.heap.size w w') : RowRes w n f c (.returned (.tuple #[.slice none 0 0, .int .i64 c'])) w' :=
  ⟨none, 0, by rw [hn, hc], Or.inl hn, hb⟩
theorem l02Apply_f (a b : Option Addr) (n m c d : Nat) (F : Mat) (v : Nat → K) (w : World) (ha : RdM w a n (fun _ => m) (fun i j => vK (F i j))) (hb : RdR w b m (fun i => vK (v i))) (hn : n ≤ 1000000) (hm : m ≤ 1000000) :
    Calls Try.prog 98 #[.slice a n c, .slice b m d] w (RetR 2 w n (fun i => vK (appK m F v i))) := by
  have HA := Lib.hid ha
  have HB := Lib.hid hb
  clear ha hb
  go_enter Try.func98, Try.ntmps98
  go_wp2_with fail
  go_loopw [5, 6] (fun v' i wr => ∃ (k g c : Nat), k ≤ n ∧ i = .int .i64 k ∧ v' = .slice (some ⟨g, 0, none⟩) k c ∧ Acc w wr 2 (.slice (some ⟨g, 0, none⟩) k c) k (fun i => vK (appK m F v i))) (fun _ i _ => n - (intOf i).toNat)
  case atStart => exact ⟨0, _, _, by omega, rfl, rfl, Acc.start _ _ _⟩
  case round =>
    obtain ⟨k, g2, c2, hk, rfl, rfl, hacc2⟩ := hrel
    have HA2 := Lib.hid hacc2
    clear hacc2
    by_cases hlt : k < n
    · obtain ⟨b1, o1, A, C, rfl, hb1, hc⟩ := HA.out.open (by omega)
      have e1 : wr.cell? ⟨b1, o1 + k, none⟩ = some (.slice (A k) m (C k)) := by
        rw [HA2.out.bel.cell (p := ⟨b1, o1 + k, none⟩) hb1]; exact (hc k hlt).1
      have Hr := Lib.hid ((hc k hlt).2.below HA2.out.bel (Nat.le_refl _))
      have Hv := Lib.hid (HB.out.below HA2.out.bel (Nat.le_refl _))
      clear hc
      generalize A k = ak at *
      generalize C k = ck at *
      go_wp2_with fail
      refine (l01Dot_f ak b m ck d (F k) v _ Hr.out Hv.out (by omega)).mono ?_
      rintro e w1 ⟨rfl, hd⟩
      have HA3 := Lib.hid (HA2.out.kept hd.below)
      clear hd
      have hsz := HA3.out.bel.size
      go_wp2_with (at_builtin; refine push64 _ rfl _ _ rfl w.heap.size _ k _ rfl (HA3.out.own.alloc _) ⟨w1.heap.size, 0, none⟩ (vK (sumK m (fun t => F k t * v t))) rfl (cell_one_new _ _ _) (by omega) (by simp; omega) ?_; intro g3 c3 w3 hown3 hgr3)
      go_roundw
      case rel => exact ⟨k + 1, g3, c3, by omega, by go_num, rfl, HA3.out.push _ rfl hown3 hgr3⟩
      case measure => simp [intOf]; omega
    · obtain rfl : k = n := by omega
      go_wp2_with fail
      go_ret
      obtain ⟨d1, d2, d3, d4⟩ := HA2.out.done
      exact ⟨g2, c2, d2, d3, rfl, d1, d4, HA2.out.bel⟩
theorem implApply_f (a : Option Addr) (n c : Nat) (L : Nat → Nat) (f : Nat → Nat → Int) (b : Option Addr) (m d : Nat) (g : Nat → Int) (w : World) (ha : RdM w a n L f) (hn : n ≤ 1048576) (hL : ∀ i, i < n → L i ≤ 1048576) (hb : RdR w b m g) (hm : m ≤ 1048576) :
    Calls Try.prog 30 #[.slice a n c, .slice b m d] w (RowRes w (nIf (okApp n L f m g) n) (fun i => vK (appK m (kM f) (kV g) i)) (cApp n L f m g)) := by
  have HB := Lib.hid hb
  have CB := Lib.hid (fun u (hu : Below w.heap.size w u) => areNumbers_f b m d g u (hb.below hu (Nat.le_refl _)) (by omega))
  cases h1 : matB n L f
  · have HE := Lib.hid (readMatrix_no a n c L f w ha (by omega) (fun i hi => by have := hL i hi; omega) h1)
    have HC := Lib.hid (show cApp n L f m g = 1 by simp [cApp, h1])
    have HN := Lib.hid (show nIf (okApp n L f m g) n = 0 by simp [okApp, h1, nIf])
    rw [HC.out, HN.out]
    clear ha hL hb h1
    go_enter Try.func30, Try.ntmps30
    go_wp2_with fail
    refine HE.out.mono ?_
    rintro e w' ⟨rfl, rfl⟩
    go_wp2_with fail
    go_ret2
    exact rowRes_err rfl rfl (Below.refl _ _)
  · obtain ⟨d0, d1, d2, d3, d4, d5⟩ := matB_dims h1
    have HE := Lib.hid (readMatrix_yes a n c L f w ha h1)
    have HF := Lib.hid (show cApp n L f m g = (if (decide (m = L 0) && allB m g) = true then 0 else 2) by simp [cApp, h1])
    have HG := Lib.hid (show okApp n L f m g = (decide (m = L 0) && allB m g) by simp [okApp, h1])
    have D5 := Lib.hid d5
    clear ha hL hb h1 d4 d5
    obtain ⟨l0, hl0⟩ : ∃ l, l = L 0 := ⟨_, rfl⟩
    rw [← hl0] at HE HF HG d2 d3 D5
    clear hl0
    by_cases e1 : m = l0
    · have q1 : ((m : Int) != (l0 : Int)) = false := by simp; omega
      cases e2 : allB m g
      · have HC := Lib.hid (show cApp n L f m g = 2 by rw [HF.out]; simp [e2])
        have HN := Lib.hid (show nIf (okApp n L f m g) n = 0 by rw [HG.out]; simp [e2, nIf])
        rw [HC.out, HN.out]
        rw [e2] at CB
        clear e1
        go_enter Try.func30, Try.ntmps30
        go_wp2_with fail
        refine HE.out.mono ?_
        rintro e w1 ⟨rfl, hM, hB⟩
        have HM := Lib.hid hM.rd
        have HBl := Lib.hid hB
        clear hM hB
        go_wp2_with fail
        refine (columns_f _ n l0 _ _ _ HM.out d0 (by omega)).mono ?_
        rintro e w2 ⟨rfl, rfl⟩
        go_wp2_with fail
        refine (CB.out _ HBl.out).mono ?_
        rintro e w2 ⟨rfl, rfl⟩
        go_wp2_with fail
        go_ret2
        exact rowRes_err rfl rfl HBl.out
      · have HC := Lib.hid (show cApp n L f m g = 0 by rw [HF.out, e2, decide_eq_true e1]; rfl)
        have HN := Lib.hid (show nIf (okApp n L f m g) n = n by rw [HG.out, e2, decide_eq_true e1]; rfl)
        rw [HC.out, HN.out]
        rw [e2] at CB
        have RB := Lib.hid (HB.out.toK (allB_t e2))
        rw [← e1] at HE d2 d3 D5 q1
        clear e1 e2 HF HG hm
        go_enter Try.func30, Try.ntmps30
        go_wp2_with fail
        refine HE.out.mono ?_
        rintro e w1 ⟨rfl, hM, hB⟩
        have HM := Lib.hid (hM.rd.toK D5.out)
        have HBl := Lib.hid hB
        clear hM hB
        go_wp2_with fail
        refine (columns_f _ n m _ _ _ HM.out d0 (by omega)).mono ?_
        rintro e w2 ⟨rfl, rfl⟩
        go_wp2_with fail
        refine (CB.out _ HBl.out).mono ?_
        rintro e w2 ⟨rfl, rfl⟩
        go_wp2_with fail
        refine (numbersOf_f b m d _ _ (RB.out.below HBl.out (Nat.le_refl _)) (by omega)).mono ?_
        rintro e w2 ⟨rfl, h2, b2, -⟩
        have H2 := Lib.hid h2.rd
        have HM2 := Lib.hid (HM.out.below b2 (Nat.le_refl _))
        have B2 := Lib.hid (HBl.out.trans (b2.mono HBl.out.size))
        clear h2 b2
        go_wp2_with fail
        refine (apply_f _ _ n m _ _ (kM f) (kV g) _ HM2.out H2.out (by omega) (by omega)).mono ?_
        rintro e w3 ⟨rfl, h3, b3, -⟩
        have H3 := Lib.hid h3.rd
        have B3 := Lib.hid (B2.out.trans (b3.mono B2.out.size))
        clear h3 b3
        go_wp2_with fail
        refine (integersOf_f _ n _ _ _ H3.out (by omega)).mono ?_
        rintro e w4 ⟨rfl, h4, b4, -⟩
        have H4 := Lib.hid h4
        have B4 := Lib.hid (B3.out.trans (b4.mono B3.out.size))
        clear h4 b4
        go_wp2_with fail
        go_ret2
        exact ⟨_, _, rfl, Or.inr ⟨_, rfl, B3.out.size, H4.out⟩, B4.out⟩
    · have q1 : ((m : Int) != (l0 : Int)) = true := by simp; omega
      have HC := Lib.hid (show cApp n L f m g = 2 by rw [HF.out]; simp [e1])
      have HN := Lib.hid (show nIf (okApp n L f m g) n = 0 by rw [HG.out]; simp [e1, nIf])
      rw [HC.out, HN.out]
      clear e1
      go_enter Try.func30, Try.ntmps30
      go_wp2_with fail
      refine HE.out.mono ?_
      rintro e w1 ⟨rfl, hM, hB⟩
      have HM := Lib.hid hM.rd
      have HBl := Lib.hid hB
      clear hM hB
      go_wp2_with fail
      refine (columns_f _ n l0 _ _ _ HM.out d0 (by omega)).mono ?_
      rintro e w2 ⟨rfl, rfl⟩
      go_wp2_with fail
      go_ret2
      exact rowRes_err rfl rfl HBl.out
theorem implApply_f_rows (n : Nat) (L : Nat → Nat) (f : Nat → Nat → Int) (m : Nat) (g : Nat → Int) : nIf (okApp n L f m g) n ≤ 64 := by
  unfold nIf
  split
  · rename_i h
    have hh : matB n L f = true := by simp [okApp] at h; exact h.1
    have := matB_dims hh
    omega
  · omega
theorem specApply_f (a : Option Addr) (n c : Nat) (L : Nat → Nat) (f : Nat → Nat → Int) (b : Option Addr) (m d : Nat) (g : Nat → Int) (w : World) (ha : RdM w a n L f) (hn : n ≤ 1048576) (hL : ∀ i, i < n → L i ≤ 1048576) (hb : RdR w b m g) (hm : m ≤ 1048576) :
    Calls Try.prog 54 #[.slice a n c, .slice b m d] w (RowRes w (nIf (okApp n L f m g) n) (fun i => vK (appK m (kM f) (kV g) i)) (cApp n L f m g)) := by
  have CA := Lib.hid (l02Is_f a n c L f w ha (by omega) (fun i hi => by have := hL i hi; omega))
  have CB := Lib.hid (fun u (hu : Below w.heap.size w u) => l01Numbers_f b m d g u (hb.below hu (Nat.le_refl _)) (by omega))
  have HB := Lib.hid hb
  cases h1 : matB n L f
  · rw [h1] at CA
    have HC := Lib.hid (show cApp n L f m g = 1 by simp [cApp, h1])
    have HN := Lib.hid (show nIf (okApp n L f m g) n = 0 by simp [okApp, h1, nIf])
    rw [HC.out, HN.out]
    clear ha hL hb h1
    go_enter Try.func54, Try.ntmps54
    go_wp2_with fail
    refine CA.out.mono ?_
    rintro e w' ⟨rfl, hd⟩
    go_wp2_with fail
    go_ret2
    exact rowRes_err rfl rfl hd.below
  · obtain ⟨d0, d1, d2, d3, d4, d5⟩ := matB_dims h1
    rw [h1] at CA
    have HF := Lib.hid (show cApp n L f m g = (if (decide (m = L 0) && allB m g) = true then 0 else 2) by simp [cApp, h1])
    have HG := Lib.hid (show okApp n L f m g = (decide (m = L 0) && allB m g) by simp [okApp, h1])
    have RA := Lib.hid ((ha.rect h1).toK d5)
    obtain ⟨b1, off, A, C, rfl, hb1, hc⟩ := ha.open d0
    have E0 := Lib.hid (show w.cell? ⟨b1, off, none⟩ = some (.slice (A 0) (L 0) (C 0)) by simpa using (hc 0 d0).1)
    clear ha hL hb h1 d4 d5 hc
    generalize A 0 = a0 at E0
    generalize C 0 = c0 at E0
    obtain ⟨l0, hl0⟩ : ∃ l, l = L 0 := ⟨_, rfl⟩
    rw [← hl0] at HF HG d2 d3 RA E0
    clear hl0
    by_cases e1 : m = l0
    · have q1 : ((m : Int) != (l0 : Int)) = false := by simp; omega
      cases e2 : allB m g
      · have HC := Lib.hid (show cApp n L f m g = 2 by rw [HF.out]; simp [e2])
        have HN := Lib.hid (show nIf (okApp n L f m g) n = 0 by rw [HG.out]; simp [e2, nIf])
        rw [HC.out, HN.out]
        rw [e2] at CB
        clear e1
        go_enter Try.func54, Try.ntmps54
        go_wp2_with fail
        refine CA.out.mono ?_
        rintro e w1 ⟨rfl, hd⟩
        have e3 : w1.cell? ⟨b1, off, none⟩ = some (.slice a0 l0 c0) := (hd.cell _).trans E0.out
        have HD := Lib.hid hd
        clear hd
        go_wp2_with fail
        refine (CB.out _ HD.out.below).mono ?_
        rintro e w2 ⟨rfl, rfl⟩
        go_wp2_with fail
        go_ret2
        exact rowRes_err rfl rfl HD.out.below
      · have HC := Lib.hid (show cApp n L f m g = 0 by rw [HF.out, e2, decide_eq_true e1]; rfl)
        have HN := Lib.hid (show nIf (okApp n L f m g) n = n by rw [HG.out, e2, decide_eq_true e1]; rfl)
        rw [HC.out, HN.out]
        rw [e2] at CB
        have RB := Lib.hid (HB.out.toK (allB_t e2))
        rw [← e1] at d2 d3 RA E0 q1
        clear e1 e2 HF HG hm
        go_enter Try.func54, Try.ntmps54
        go_wp2_with fail
        refine CA.out.mono ?_
        rintro e w1 ⟨rfl, hd⟩
        have e3 : w1.cell? ⟨b1, off, none⟩ = some (.slice a0 m c0) := (hd.cell _).trans E0.out
        have HD := Lib.hid hd
        clear hd
        go_wp2_with fail
        refine (CB.out _ HD.out.below).mono ?_
        rintro e w2 ⟨rfl, rfl⟩
        go_wp2_with fail
        refine (l02Apply_f _ _ n m _ _ (kM f) (kV g) _ (RA.out.below HD.out.below (Nat.le_refl _)) (RB.out.below HD.out.below (Nat.le_refl _)) (by omega) (by omega)).mono ?_
        rintro e w2 ⟨b4, c4, y1, y2, rfl, y3, h4, b5⟩
        have HB0 := Lib.hid (HD.out.below (B := w.heap.size))
        have H4 := Lib.hid h4
        have B4 := Lib.hid (HB0.out.trans (b5.mono HB0.out.size))
        have Y3 := Lib.hid (Nat.le_trans HB0.out.size y3)
        clear h4 b5 y3
        go_wp2_with fail
        go_ret2
        exact ⟨_, _, rfl, Or.inr ⟨_, rfl, Y3.out, H4.out⟩, B4.out⟩
    · have q1 : ((m : Int) != (l0 : Int)) = true := by simp; omega
      have HC := Lib.hid (show cApp n L f m g = 2 by rw [HF.out]; simp [e1])
      have HN := Lib.hid (show nIf (okApp n L f m g) n = 0 by rw [HG.out]; simp [e1, nIf])
      rw [HC.out, HN.out]
      clear e1
      go_enter Try.func54, Try.ntmps54
      go_wp2_with fail
      refine CA.out.mono ?_
      rintro e w1 ⟨rfl, hd⟩
      have e3 : w1.cell? ⟨b1, off, none⟩ = some (.slice a0 l0 c0) := (hd.cell _).trans E0.out
      have HD := Lib.hid hd
      clear hd
      go_wp2_with fail
      go_ret2
      exact rowRes_err rfl rfl HD.out.below
end Go.Proofs.Ytijbecjkldaddaa
