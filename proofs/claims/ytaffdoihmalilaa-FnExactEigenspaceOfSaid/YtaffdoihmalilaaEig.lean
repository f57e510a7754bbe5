/- Eigenspaces: of both. -/
import Derived.Test.YtaffdoihmalilaaKeR
namespace Go.Proofs.Ytaffdoihmalilaa
open Go.RowKit
set_option linter.unusedSimpArgs false
theorem eigenspace_f (a : Option Addr) (n c : Nat) (F : Mat) (x : K) (w : World) (h : RdM w a n (fun _ => n) (fun i j => vK (F i j))) (h0 : 0 < n) (hn : n ≤ 100) :
    Calls Try.prog 93 #[.slice a n c, .int .i64 (vK x)] w (KerRes w n n (diagK F (0 - x))) := by
  have H := Lib.hid h
  have hmin := fun u => minus_k 0 x u
  rw [vK_zero] at hmin
  have HMi := Lib.hid hmin
  have HPl := Lib.hid (plusOnDiagonal_f a n c F (0 - x) w h h0 (by omega))
  obtain ⟨xv, hxv⟩ : ∃ v, v = vK x := ⟨_, rfl⟩
  obtain ⟨yv, hyv⟩ : ∃ v, v = vK (0 - x) := ⟨_, rfl⟩
  rw [← hxv, ← hyv] at HMi
  rw [← hyv] at HPl
  rw [← hxv]
  clear h hmin hxv hyv
  go_enter Try.func93, Try.ntmps93
  go_wp2_with fail
  refine (HMi.out _).mono ?_
  rintro e w1 ⟨rfl, rfl⟩
  go_wp2_with fail
  refine HPl.out.mono ?_
  rintro e w2 ⟨b2, c2, C2, G2, y1, y2, rfl, hM, hB⟩
  have HM := Lib.hid hM.rd
  have HB := Lib.hid hB
  clear hM hB y1 y2
  go_wp2_with fail
  refine (kernel_f _ n n c2 (diagK F (0 - x)) _ HM.out h0 h0 (by omega) (by omega)).mono ?_
  rintro e w3 ⟨q, Z, g, rfl, hq, hk, hM3, hB3⟩
  have HK := Lib.hid hk
  have HM3 := Lib.hid hM3
  have HB3 := Lib.hid (HB.out.trans (hB3.mono HB.out.size))
  clear hk hM3 hB3
  go_wp2_with fail
  go_ret
  exact ⟨q, Z, g, rfl, hq, HK.out, HM3.out, HB3.out⟩
theorem l02Less_f (a : Option Addr) (n c : Nat) (F : Mat) (x : K) (w : World) (h : RdM w a n (fun _ => n) (fun i j => vK (F i j))) (h0 : 0 < n) (hn : n ≤ 1000) :
    Calls Try.prog 91 #[.slice a n c, .int .i64 (vK x)] w (RetM 31 2 w n (fun _ => n) (fun i j => vK (diagK F (0 - x) i j))) := by
  have H := Lib.hid h
  have hxb := vK_bd x
  have HS := Lib.hid (fun i => vK_sub (F i i) x)
  have HDi := Lib.hid (fun i => show F i i - x = F i i + (0 - x) by grind)
  clear h
  obtain ⟨xv, hxv⟩ : ∃ v, v = vK x := ⟨_, rfl⟩
  rw [← hxv] at hxb ⊢
  rw [← hxv] at HS
  clear hxv
  go_enter Try.func91, Try.ntmps91
  go_wp2_with fail
  refine (l01Own2_f _ n n _ _ _ H.out h0 (by omega) (by omega)).mono ?_
  rintro e w1 ⟨b, cp, C, G, y1, y2, rfl, hM, hB⟩
  have HM := Lib.hid hM
  have HB := Lib.hid hB
  have HY := Lib.hid (And.intro y1 y2)
  clear hM hB y1 y2
  go_wp2_with fail
  go_loopw [6] (fun i wr => ∃ q : Nat, q ≤ n ∧ i = .int .i64 q ∧ MatB wr 31 2 w.heap.size b n (fun _ => n) C G (fun i j => if i < q then vK (diagK F (0 - x) i j) else vK (F i j)) ∧ Below w.heap.size w wr) (fun i _ => n - (intOf i).toNat)
  case atStart => exact ⟨0, by omega, rfl, HM.out, HB.out⟩
  case round =>
    obtain ⟨q, hq, rfl, hm, hbl⟩ := hrel
    have HM2 := Lib.hid hm
    have HB2 := Lib.hid hbl
    clear hm hbl
    by_cases hlt : q < n
    · have e1 := RowB.cell HM2.out.outer hlt
      have Hrw := Lib.hid (HM2.out.row q hlt)
      have e2 := RowB.cell (show RowB wr 2 (G q) n _ from Hrw.out.2.2.2) hlt
      have e3 := RowB.frozen (show RowB wr 2 (G q) n _ from Hrw.out.2.2.2) q
      simp only [if_neg (show ¬ q < q by omega)] at e2
      obtain ⟨gq, hgq⟩ : ∃ v, v = G q := ⟨_, rfl⟩
      rw [← hgq] at e1 e2 e3
      have HG := Lib.hid hgq
      clear hgq
      generalize C q = cq at e1
      have hzb := vK_bd (F q q)
      have HSq := Lib.hid (HS.out q)
      obtain ⟨z, hz⟩ : ∃ v, v = vK (F q q) := ⟨_, rfl⟩
      rw [← hz] at e2 hzb HSq
      have hw : IntKind.i64.wrap (z - xv) = z - xv := IntWalk.i64_in _ (by omega)
      clear hz
      go_wp2_with fail
      refine (l01Mod_any (z - xv) wr).mono ?_
      rintro e w2 ⟨rfl, rfl⟩
      rw [HSq.out, HDi.out]
      go_wp2_with fail
      go_roundw
      case rel =>
        refine ⟨q + 1, by omega, by go_num, ?_, HB2.out.setCell (by simp; have := Hrw.out.1; rw [HG.out]; exact this) _⟩
        rw [HG.out]
        refine (HM2.out.set (by decide) hlt (j := q) (vK (F q q + (0 - x)))).congr fun i hi j hj => ?_
        by_cases e : i = q
        · subst e
          by_cases e' : j = i
          · subst e'; simp [diagK]
          · rw [if_neg (fun h => e' h.2), if_neg (by omega), if_pos (by omega)]
            simp only [diagK, if_neg (show ¬ i = j from fun h => e' h.symm)]
        · rw [if_neg (fun h => e h.1)]
          by_cases e' : i < q
          · rw [if_pos e', if_pos (by omega)]
          · rw [if_neg e', if_neg (by omega)]
      case measure => simp [intOf]; omega
    · obtain rfl : q = n := by omega
      go_wp2_with fail
      go_ret
      exact ⟨b, cp, C, G, HY.out.1, HY.out.2, rfl, HM2.out.congr (fun i hi j _ => by rw [if_pos hi]), HB2.out⟩
def eigA (f : Nat → Nat → Int) (v : Int) : Mat := diagK (kM f) (0 - kOf v)
noncomputable def eigQ (n : Nat) (f : Nat → Nat → Int) (v : Int) : Nat := kerQ n n (eigA f v)
noncomputable def okEig (n : Nat) (L : Nat → Nat) (f : Nat → Nat → Int) (v : Int) : Bool := sqB n L f && numB v
noncomputable def cEig (n : Nat) (L : Nat → Nat) (f : Nat → Nat → Int) (v : Int) : Int := if sqB n L f = true then (if numB v = true then (if eigQ n f v = 0 then 4 else 0) else 2) else cSq n L f
theorem implEig_f (a : Option Addr) (n c : Nat) (L : Nat → Nat) (f : Nat → Nat → Int) (v : Int) (w : World) (h : RdM w a n L f) (hn : n ≤ 1048576) (hL : ∀ i, i < n → L i ≤ 1048576) (_wf : (Lit.int .i64 v).wf = true) :
    Calls Try.prog 32 #[.slice a n c, .int .i64 v] w (TabRes w (nIf (okEig n L f v) (eigQ n f v)) (fun _ => n) (fun i j => vK (kerZ n n (eigA f v) i j)) (cEig n L f v)) := by
  cases hs : sqB n L f
  · have HE := Lib.hid (readSquare_no a n c L f w h hn hL hs)
    obtain ⟨hne, hne'⟩ := cSq_ne' hs
    have HC := Lib.hid (show cEig n L f v = cSq n L f by simp [cEig, hs])
    have HN := Lib.hid (show nIf (okEig n L f v) (eigQ n f v) = 0 by simp [okEig, hs, nIf])
    rw [HC.out, HN.out]
    clear h hL hs
    generalize cSq n L f = cd at *
    go_enter Try.func32, Try.ntmps32
    go_wp2_with fail
    refine HE.out.mono ?_
    rintro e w' ⟨rfl, hB⟩
    have HB := Lib.hid hB
    clear hB
    go_wp2_with fail
    go_ret2
    exact tabRes_err rfl rfl HB.out
  · have HE := Lib.hid (readSquare_yes a n c L f w h hs)
    obtain ⟨-, -, d0, d1, -⟩ := sqB_t hs
    have HS := Lib.hid hs
    clear h hL hs
    cases hv : numB v
    · have HC := Lib.hid (show cEig n L f v = 2 by simp [cEig, HS.out, hv])
      have HN := Lib.hid (show nIf (okEig n L f v) (eigQ n f v) = 0 by simp [okEig, HS.out, nIf, hv])
      rw [HC.out, HN.out]
      have HI := Lib.hid (fun u => isNumber_any v u)
      rw [hv] at HI
      clear hv
      go_enter Try.func32, Try.ntmps32
      go_wp2_with fail
      refine HE.out.mono ?_
      rintro e w1 ⟨rfl, hM, hB⟩
      have HB := Lib.hid hB
      clear hM hB
      go_wp2_with fail
      refine (HI.out _).mono ?_
      rintro e w2 ⟨rfl, rfl⟩
      go_wp2_with fail
      go_ret2
      exact tabRes_err rfl rfl HB.out
    · have HI := Lib.hid (fun u => isNumber_any v u)
      rw [hv] at HI
      have hv2 := numB_t hv
      have HEs := Lib.hid (fun (a : Option Addr) (u : World) (x : RdM u a n (fun _ => n) (fun i j => vK (kM f i j))) => eigenspace_f a n n (kM f) (kOf v) u x d0 (by omega))
      rw [vK_kOf v hv2.1 hv2.2] at HEs
      have HV := Lib.hid hv
      clear hv hv2
      go_enter Try.func32, Try.ntmps32
      go_wp2_with fail
      refine HE.out.mono ?_
      rintro e w1 ⟨rfl, hM, hB⟩
      have HM := Lib.hid hM.rd
      have HB := Lib.hid hB
      clear hM hB
      go_wp2_with fail
      refine (HI.out _).mono ?_
      rintro e w1' ⟨rfl, rfl⟩
      go_wp2_with fail
      refine (HEs.out _ _ HM.out).mono ?_
      rintro e w2 ⟨q, Z, g, rfl, hq, hk, hM2, hB2⟩
      obtain ⟨k1, k2⟩ := ker_eq hq hk
      have HK1 := Lib.hid (show eigQ n f v = q from k1)
      have HK2 := Lib.hid k2
      have HM2 := Lib.hid hM2
      have HB2 := Lib.hid (HB.out.trans (hB2.mono HB.out.size))
      clear hM2 hB2 hk k1 k2
      by_cases hq0 : q = 0
      · subst hq0
        have HC := Lib.hid (show cEig n L f v = 4 by simp [cEig, HS.out, HV.out, HK1.out])
        have HN := Lib.hid (show nIf (okEig n L f v) (eigQ n f v) = 0 by simp [HK1.out, nIf])
        go_wp2_with fail
        go_ret2
        rw [HC.out, HN.out]
        exact tabRes_err rfl rfl HB2.out
      · have HC := Lib.hid (show cEig n L f v = 0 by simp [cEig, HS.out, HV.out, HK1.out, hq0])
        have HN := Lib.hid (show nIf (okEig n L f v) (eigQ n f v) = q by simp [okEig, HS.out, HV.out, HK1.out, nIf])
        have hd : ((q : Int) == 0) = false := by simp; omega
        go_wp2_with fail
        refine (integers_f _ q _ (fun _ => n) _ _ HM2.out (by omega) (fun i hi => by omega)).mono ?_
        rintro e w3 ⟨rfl, hM3, hB3, -⟩
        have HM3 := Lib.hid (hM3.congr (g := fun i j => vK (kerZ n n (eigA f v) i j)) (fun i hi j hj => by rw [HK2.out i hi j hj]; rfl))
        have HB3 := Lib.hid (HB2.out.trans (hB3.mono HB2.out.size))
        clear hM3 hB3
        go_wp2_with fail
        go_ret2
        rw [HC.out, HN.out]
        exact ⟨_, _, rfl, own_of_matB (HM3.out.mono HB2.out.size), HB3.out⟩
theorem implEig_f_rows (n : Nat) (L : Nat → Nat) (f : Nat → Nat → Int) (v : Int) : nIf (okEig n L f v) (eigQ n f v) ≤ 64 := by
  unfold nIf
  split
  · rename_i h
    have hh : sqB n L f = true := by simp [okEig] at h; exact h.1
    obtain ⟨-, -, d0, d1, -⟩ := sqB_t hh
    have := kerQ_le n n (eigA f v)
    unfold eigQ; omega
  · omega
theorem implEig_f_cols (n : Nat) (L : Nat → Nat) (f : Nat → Nat → Int) (v : Int) : ∀ i, i < nIf (okEig n L f v) (eigQ n f v) → n ≤ 64 := by
  unfold nIf
  split
  · rename_i h
    have hh : sqB n L f = true := by simp [okEig] at h; exact h.1
    obtain ⟨-, -, d0, d1, -⟩ := sqB_t hh
    intro i hi; omega
  · intro i hi; omega
theorem specEig_f (a : Option Addr) (n c : Nat) (L : Nat → Nat) (f : Nat → Nat → Int) (v : Int) (w : World) (h : RdM w a n L f) (hn : n ≤ 1048576) (hL : ∀ i, i < n → L i ≤ 1048576) (_wf : (Lit.int .i64 v).wf = true) :
    Calls Try.prog 31 #[.slice a n c, .int .i64 v] w (TabRes w (nIf (okEig n L f v) (eigQ n f v)) (fun _ => n) (fun i j => vK (kerZ n n (eigA f v) i j)) (cEig n L f v)) := by
  have HE := Lib.hid (l02Square_f a n c L f w h hn hL)
  have HI := Lib.hid (fun u => l01Number_any v u)
  cases hs : sqB n L f
  · obtain ⟨hne, hne'⟩ := cSq_ne' hs
    have HC := Lib.hid (show cEig n L f v = cSq n L f by simp [cEig, hs])
    have HN := Lib.hid (show nIf (okEig n L f v) (eigQ n f v) = 0 by simp [okEig, hs, nIf])
    rw [HC.out, HN.out]
    clear h hL hs
    generalize cSq n L f = cd at *
    go_enter Try.func31, Try.ntmps31
    go_wp2_with fail
    refine HE.out.mono ?_
    rintro e w' ⟨rfl, hd⟩
    have HD := Lib.hid hd
    clear hd
    go_wp2_with fail
    go_ret2
    exact tabRes_err rfl rfl HD.out.below
  · obtain ⟨hm, hnl, d0, d1, d5⟩ := sqB_t hs
    have HR := h.rect hm
    rw [← hnl] at HR
    have HR := Lib.hid (HR.toK d5)
    rw [cSq_yes hs] at HE
    have HS := Lib.hid hs
    clear h hL hs hm hnl d5
    cases hv : numB v
    · have HC := Lib.hid (show cEig n L f v = 2 by simp [cEig, HS.out, hv])
      have HN := Lib.hid (show nIf (okEig n L f v) (eigQ n f v) = 0 by simp [okEig, HS.out, nIf, hv])
      rw [HC.out, HN.out]
      rw [hv] at HI
      clear hv
      go_enter Try.func31, Try.ntmps31
      go_wp2_with fail
      refine HE.out.mono ?_
      rintro e w1 ⟨rfl, hd⟩
      have HD := Lib.hid (hd.below (B := w.heap.size))
      clear hd
      go_wp2_with (go_at_call 90; refine (HI.out _).mono ?_; rintro e w' ⟨rfl, rfl⟩)
      go_ret2
      exact tabRes_err rfl rfl HD.out
    · rw [hv] at HI
      have hv2 := numB_t hv
      have HEs := Lib.hid (fun (u : World) (x : RdM u a n (fun _ => n) (fun i j => vK (kM f i j))) => l02Less_f a n c (kM f) (kOf v) u x d0 (by omega))
      rw [vK_kOf v hv2.1 hv2.2] at HEs
      have HV := Lib.hid hv
      clear hv hv2
      go_enter Try.func31, Try.ntmps31
      go_wp2_with fail
      refine HE.out.mono ?_
      rintro e w1 ⟨rfl, hd⟩
      have HD := Lib.hid (hd.below (B := w.heap.size))
      clear hd
      go_wp2_with (go_at_call 90; refine (HI.out _).mono ?_; rintro e w' ⟨rfl, rfl⟩)
      refine (HEs.out _ (HR.out.below HD.out (Nat.le_refl _))).mono ?_
      rintro e w2 ⟨b2, c2, C2, G2, y1, y2, rfl, hM, hB⟩
      have HM := Lib.hid hM.rd
      have HB := Lib.hid (HD.out.trans (hB.mono HD.out.size))
      clear hM hB y1 y2
      go_wp2_with fail
      refine (l02Kernel_f _ n n _ (diagK (kM f) (0 - kOf v)) _ HM.out d0 d0 (by omega) (by omega)).mono ?_
      rintro e w3 ⟨q, Z, hq, hk, b3, c3, C3, G3, y1, y2, rfl, hM3, hB3⟩
      obtain ⟨k1, k2⟩ := ker_eq hq hk
      have HK1 := Lib.hid (show eigQ n f v = q from k1)
      have HM3 := Lib.hid (hM3.congr (g := fun i j => vK (kerZ n n (eigA f v) i j)) (fun i hi j hj => by rw [k2 i hi j hj]; rfl))
      have HB3 := Lib.hid (HB.out.trans (hB3.mono HB.out.size))
      clear hM3 hB3 hk k1 k2 y1 y2
      by_cases hq0 : q = 0
      · subst hq0
        have HC := Lib.hid (show cEig n L f v = 4 by simp [cEig, HS.out, HV.out, HK1.out])
        have HN := Lib.hid (show nIf (okEig n L f v) (eigQ n f v) = 0 by simp [HK1.out, nIf])
        go_wp2_with fail
        go_ret2
        rw [HC.out, HN.out]
        exact tabRes_err rfl rfl HB3.out
      · have HC := Lib.hid (show cEig n L f v = 0 by simp [cEig, HS.out, HV.out, HK1.out, hq0])
        have HN := Lib.hid (show nIf (okEig n L f v) (eigQ n f v) = q by simp [okEig, HS.out, HV.out, HK1.out, nIf])
        have hd : ((q : Int) == 0) = false := by simp; omega
        go_wp2_with fail
        go_ret2
        rw [HC.out, HN.out]
        exact ⟨_, _, rfl, own_of_matB (HM3.out.mono HB.out.size), HB3.out⟩
end Go.Proofs.Ytaffdoihmalilaa
