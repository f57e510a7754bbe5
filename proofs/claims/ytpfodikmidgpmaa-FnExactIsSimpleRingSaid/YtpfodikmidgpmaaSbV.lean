/- SubringsOf and IsSimpleRing of both. -/
import Derived.Test.YtpfodikmidgpmaaSbU
namespace Go.Proofs.Ytpfodikmidgpmaa
open Go.RowKit
set_option linter.unusedSimpArgs false
set_option linter.unusedVariables false
/-- the j-th subring -/
noncomputable def sbF (n : Nat) (f : Nat → Nat → Nat → Int) (j : Nat) : Int := ((sbL n f).getD j 0 : Nat)
theorem sbF_at {n : Nat} {f : Nat → Nat → Nat → Int} {t : Nat} (ht : t < 2 ^ n) (h : sbrB n f t = true) : sbF n f (sbLM n f t).length = (t : Nat) := by
  have hpre := sbLM_pre n f (t + 1) (2 ^ n - (t + 1))
  rw [show t + 1 + (2 ^ n - (t + 1)) = 2 ^ n by omega, sbLM_yes h] at hpre
  obtain ⟨r, hr⟩ := hpre
  unfold sbF sbL
  rw [← hr, List.append_assoc, List.getD_eq_getElem?_getD, List.getElem?_append_right (Nat.le_refl _)]
  simp
set_option maxRecDepth 100000 in
set_option maxHeartbeats 1000000 in
theorem l05Subrings_f (b off n c : Nat) (B O C : Nat → Nat) (B2 O2 C2 : Nat → Nat → Nat) (f : Nat → Nat → Nat → Int) (w : World) (h : CubeAt w b off n B O C B2 O2 C2 f) (R : Rng n f) :
    Calls Try.prog 59 #[.agg #[.slice (some ⟨b, off, none⟩) n c]] w fun e w' => ∃ g cg, e = .returned (.slice (some ⟨g, 0, none⟩) (sbL n f).length cg) ∧ w.heap.size ≤ g ∧ RowI w' 2 g (sbL n f).length (sbF n f) ∧ Below w.heap.size w w' := by
  have h0 := R.h0
  have h16 := R.h16
  have hp := pow_le16 h16
  have hpp : 0 < 2 ^ n := Nat.pow_pos (by omega)
  obtain ⟨W, hW⟩ : ∃ W, W = w.alloc (.cells #[.slice (some ⟨b, off, none⟩) n c] 28) := ⟨_, rfl⟩
  have HWe := Lib.hid hW
  have HWs := Lib.hid (show W.heap.size = w.heap.size + 1 by rw [hW]; simp)
  have HB := Lib.hid (show Below w.heap.size w W by rw [hW]; exact below_alloc w _)
  have E0 := Lib.hid (show W.cell? ⟨w.heap.size, 0, none⟩ = some (.slice (some ⟨b, off, none⟩) n c) by rw [hW]; exact cell_box _ _ _)
  have HIs := Lib.hid (fun u s (hu : Below w.heap.size w u) (hs : s < 2 ^ n) => (l05Is_f b off n c B O C B2 O2 C2 f s u (h.below hu) R hs).mono (R' := fun e w' => e = .returned (.bool (sbrB n f s)) ∧ Below u.heap.size u w') fun e w' h => by
    obtain ⟨r, rfl, hr, hb⟩ := h
    exact ⟨by rw [sbrB_of hr], hb⟩)
  have HAl := Lib.hid (fun u => l05All_f (some ⟨b, off, none⟩) n c u h16)
  clear hW h R
  go_enter Try.func59, Try.ntmps59
  go_wp2_with fail
  rw [← HWe.out]
  have HA0 := Lib.hid (show Acc W (W.alloc (.cells #[] 2)) 2 (.slice (some ⟨w.heap.size + 1, 0, none⟩) 0 0) 0 (sbF n f) by
    have ha := Acc.start W 2 (sbF n f)
    rw [HWs.out] at ha
    exact ha)
  go_loopw [3, 4] (fun v x wr => ∃ (t g cg : Nat), t % 2 = 1 ∧ t ≤ 2 ^ n + 1 ∧ x = .int .i64 t ∧ v = .slice (some ⟨g, 0, none⟩) (sbLM n f t).length cg ∧ Acc W wr 2 (.slice (some ⟨g, 0, none⟩) (sbLM n f t).length cg) (sbLM n f t).length (sbF n f)) (fun _ x _ => 70000 - (intOf x).toNat)
  case atStart =>
    have e1 : sbLM n f 1 = [] := sbLM_no (t := 0) (sbrB_even rfl)
    exact ⟨1, _, _, rfl, by omega, rfl, by rw [e1]; rfl, by rw [e1]; exact HA0.out⟩
  case round =>
    obtain ⟨t, g, cg, hodd, ht, rfl, rfl, hacc⟩ := hrel
    have HA := Lib.hid hacc
    have HT := Lib.hid (HB.out.trans (hacc.bel.mono HB.out.size))
    clear hacc
    have hsw : w.heap.size < W.heap.size := by rw [HWs.out]; omega
    have e0 : wr.cell? ⟨w.heap.size, 0, none⟩ = some (.slice (some ⟨b, off, none⟩) n c) := (HA.out.bel.cell (p := ⟨w.heap.size, 0, none⟩) hsw).trans E0.out
    have hlq := sbLM_len n f t
    go_wp2_with fail
    clear e0
    refine (HAl.out _).mono ?_
    rintro e w2 ⟨rfl, hb2⟩
    have HA2 := Lib.hid (HA.out.kept hb2)
    have HT2 := Lib.hid (HT.out.trans (hb2.mono HT.out.size))
    clear hb2
    have e0 : w2.cell? ⟨w.heap.size, 0, none⟩ = some (.slice (some ⟨b, off, none⟩) n c) := (HA2.out.bel.cell (p := ⟨w.heap.size, 0, none⟩) hsw).trans E0.out
    by_cases hlt : t < 2 ^ n
    · have hle : decide ((t : Int) ≤ ((2 ^ n - 1 : Nat) : Int)) = true := by simp only [decide_eq_true_eq]; omega
      have hev : (t + 1) % 2 = 0 := by omega
      have HE := Lib.hid (sbLM_no (n := n) (f := f) (t := t + 1) (sbrB_even hev))
      have HD := Lib.hid (HIs.out w2 t HT2.out hlt)
      go_wp2_with fail
      clear e0 hle
      refine HD.out.mono ?_
      rintro e w3 ⟨rfl, hb3⟩
      have HA3 := Lib.hid (HA2.out.kept hb3)
      clear hb3
      cases hb : sbrB n f t
      · have HN := Lib.hid (show sbLM n f (t + 2) = sbLM n f t by rw [show t + 2 = t + 1 + 1 from rfl, HE.out]; exact sbLM_no hb)
        clear hb
        go_wp2_with fail
        exact ⟨⟨t + 2, g, cg, by omega, by omega, by go_num, by rw [HN.out], by rw [HN.out]; exact HA3.out⟩, by simp [intOf]; omega⟩
      · have HN := Lib.hid (show sbLM n f (t + 2) = sbLM n f t ++ [t] by rw [show t + 2 = t + 1 + 1 from rfl, HE.out]; exact sbLM_yes hb)
        have HN2 := Lib.hid (show (sbLM n f (t + 2)).length = (sbLM n f t).length + 1 by rw [HN.out]; simp)
        have HF := Lib.hid (sbF_at hlt hb)
        clear hb
        have hsz := HA3.out.bel.size
        obtain ⟨l, hl⟩ : ∃ l, l = (sbLM n f t).length := ⟨_, rfl⟩
        rw [← hl] at HA3 HN2 HF hlq ⊢
        clear hl
        go_wp2_with (at_builtin; refine push64 _ rfl _ _ rfl W.heap.size _ l _ rfl (HA3.out.own.alloc _) ⟨_, 0, none⟩ (t : Int) rfl (cell_one_new _ _ _) (by omega) (by simp; omega) ?_; intro g3 c3 w4 hown3 hgr3)
        have HP := Lib.hid (HA3.out.push _ HF.out hown3 hgr3)
        clear hown3 hgr3
        go_wp2_with fail
        exact ⟨⟨t + 2, g3, c3, by omega, by omega, by go_num, by rw [HN2.out], by rw [HN2.out]; exact HP.out⟩, by simp [intOf]; omega⟩
    · have hle : decide ((t : Int) ≤ ((2 ^ n - 1 : Nat) : Int)) = false := by simp only [decide_eq_false_iff_not]; omega
      have HE := Lib.hid (show sbLM n f t = sbL n f by
        obtain ⟨d, rfl⟩ : ∃ d, t = 2 ^ n + d := ⟨t - 2 ^ n, by omega⟩
        exact sbLM_top d)
      obtain ⟨hg, hcg1, hcg2, hrow⟩ := HA2.out.done
      rw [HE.out] at hrow ⊢
      have HRw := Lib.hid hrow
      have HG := Lib.hid (show w.heap.size ≤ g from by rw [HWs.out] at hg; omega)
      clear hrow hg HA HA2
      go_wp2_with fail
      go_ret
      exact ⟨g, cg, rfl, HG.out, HRw.out, HT2.out⟩
set_option maxRecDepth 100000 in
theorem implSbs_f (a : Option Addr) (n c : Nat) (M : Nat → Nat) (L : Nat → Nat → Nat) (f : Nat → Nat → Nat → Int) (w : World) (h : RdT w a n M L f) (hn : n ≤ 1048576) (hM : ∀ i, i < n → M i ≤ 1048576) (hL : ∀ i, i < n → ∀ j, j < M i → L i j ≤ 1048576) :
    Calls Try.prog 24 #[.agg #[.slice a n c]] w (RowRes w (nRg (ringB n M L f) (sbL n f).length) (sbF n f) (cRg (ringB n M L f))) := by
  have HI := Lib.hid (fun u (hu : Below w.heap.size w u) => implIsRing_f a n c M L f u (h.below hu (Nat.le_refl _)) hn hM hL)
  clear hM hL
  cases hr : ringB n M L f
  · rw [hr] at HI
    clear h hr
    go_enter Try.func24, Try.ntmps24
    go_wp2_with fail
    refine (HI.out _ (below_alloc _ _)).mono ?_
    rintro e w1 ⟨rfl, hb⟩
    have HB := Lib.hid ((below_alloc w (.cells #[.slice a n c] 28)).trans (hb.mono (by simp)))
    have hsz : w.heap.size < w1.heap.size := by have := hb.size; simp at this; omega
    have e0 : w1.cell? ⟨w.heap.size, 0, none⟩ = some (.slice a n c) := by
      rw [hb.cell (p := ⟨w.heap.size, 0, none⟩) (by simp)]; exact cell_box _ _ _
    have E0 := Lib.hid e0
    clear hb
    go_wp2_with fail
    go_ret2
    exact rowRes_none rfl rfl HB.out
  · have HRg := Lib.hid (rng_of hr)
    obtain ⟨h0, h16, hf, hd, b, off, B, O, C, B2, O2, C2, rfl, hat⟩ := ring_open h hr
    have HAt := Lib.hid hat
    rw [hr] at HI
    clear h hd hf hr hat
    go_enter Try.func24, Try.ntmps24
    go_wp2_with fail
    refine (HI.out _ (below_alloc _ _)).mono ?_
    rintro e w1 ⟨rfl, hb⟩
    have HB := Lib.hid ((below_alloc w (.cells #[.slice (some ⟨b, off, none⟩) n c] 28)).trans (hb.mono (by simp)))
    have hsz : w.heap.size < w1.heap.size := by have := hb.size; simp at this; omega
    have e0 : w1.cell? ⟨w.heap.size, 0, none⟩ = some (.slice (some ⟨b, off, none⟩) n c) := by
      rw [hb.cell (p := ⟨w.heap.size, 0, none⟩) (by simp)]; exact cell_box _ _ _
    have E0 := Lib.hid e0
    clear hb
    go_wp2_with fail
    clear e0
    refine (occurrences_f b off n c B O C B2 O2 C2 f _ (HAt.out.below HB.out) h0 h16).mono ?_
    rintro e w3 ⟨T, G, C', rfl, hocc, hb3⟩
    have HO := Lib.hid hocc
    have HB3 := Lib.hid (HB.out.trans (hb3.mono HB.out.size))
    clear hocc hb3
    go_wp2_with fail
    refine (subrings_f _ n n _).mono ?_
    rintro e w4 ⟨rfl, rfl⟩
    obtain ⟨wb, hwb⟩ : ∃ u, u = w3.alloc (.cells #[.slice (some ⟨T, 0, none⟩) n n] 55) := ⟨_, rfl⟩
    have HBx := Lib.hid (show Boxed wb w3.heap.size 55 (.slice (some ⟨T, 0, none⟩) n n) by rw [hwb]; exact Boxed.new _ _ _)
    have HO4 := Lib.hid (show OccP wb T 0 n G (fun _ => 0) C' (occ n f) by rw [hwb]; exact HO.out.below (below_alloc w3 _) (Nat.le_refl _))
    have HB4 := Lib.hid (show Below w.heap.size w wb by rw [hwb]; exact HB3.out.alloc HB3.out.size _)
    rw [← hwb]
    clear hwb
    go_wp2_with fail
    refine (collectSets_f 94 #[.pointer (some ⟨w3.heap.size, 0, none⟩)] wb.heap.size 65536 (fun ys => ys = sbL n f) (fun pre => pre <+: sbL n f) wb (by omega) (Nat.le_refl _) (enters_of Try.func94 (by kernel_rfl) rfl) (fun u hu => subrings_stops (9 - 1) w3.heap.size T 0 n n G (fun _ => 0) C' f wb HO4.out h0 h16 HBx.out u hu)).mono ?_
    rintro e w6 ⟨xs, a, ca, rfl, rfl, hown, hb6⟩
    have HR := Lib.hid hown
    have HB6 := Lib.hid (HB4.out.trans (hb6.mono HB4.out.size))
    have HS4 := Lib.hid HB4.out.size
    clear hown hb6
    go_wp2_with fail
    go_ret2
    refine ⟨_, _, rfl, ?_, HB6.out⟩
    rcases HR.out with hz | ⟨g, rfl, hg, hr⟩
    · exact .inl hz
    · exact .inr ⟨g, rfl, Nat.le_trans HS4.out hg, hr⟩
set_option maxRecDepth 100000 in
theorem specSbs_f (a : Option Addr) (n c : Nat) (M : Nat → Nat) (L : Nat → Nat → Nat) (f : Nat → Nat → Nat → Int) (w : World) (h : RdT w a n M L f) (hn : n ≤ 1048576) (hM : ∀ i, i < n → M i ≤ 1048576) (hL : ∀ i, i < n → ∀ j, j < M i → L i j ≤ 1048576) :
    Calls Try.prog 23 #[.agg #[.slice a n c]] w (RowRes w (nRg (ringB n M L f) (sbL n f).length) (sbF n f) (cRg (ringB n M L f))) := by
  have HI := Lib.hid (fun u (hu : Below w.heap.size w u) => l03Is_f a n c M L f u (h.below hu (Nat.le_refl _)) hn hM hL)
  clear hM hL
  cases hr : ringB n M L f
  · rw [hr] at HI
    clear h hr
    go_enter Try.func23, Try.ntmps23
    go_wp2_with fail
    refine (HI.out _ (below_alloc _ _)).mono ?_
    rintro e w1 ⟨rfl, hb⟩
    have HB := Lib.hid ((below_alloc w (.cells #[.slice a n c] 28)).trans (hb.mono (by simp)))
    have hsz : w.heap.size < w1.heap.size := by have := hb.size; simp at this; omega
    have e0 : w1.cell? ⟨w.heap.size, 0, none⟩ = some (.slice a n c) := by
      rw [hb.cell (p := ⟨w.heap.size, 0, none⟩) (by simp)]; exact cell_box _ _ _
    have E0 := Lib.hid e0
    clear hb
    go_wp2_with fail
    go_ret2
    exact rowRes_none rfl rfl HB.out
  · have HRg := Lib.hid (rng_of hr)
    obtain ⟨h0, h16, hf, hd, b, off, B, O, C, B2, O2, C2, rfl, hat⟩ := ring_open h hr
    have HAt := Lib.hid hat
    rw [hr] at HI
    clear h hd hf hr hat
    go_enter Try.func23, Try.ntmps23
    go_wp2_with fail
    refine (HI.out _ (below_alloc _ _)).mono ?_
    rintro e w1 ⟨rfl, hb⟩
    have HB := Lib.hid ((below_alloc w (.cells #[.slice (some ⟨b, off, none⟩) n c] 28)).trans (hb.mono (by simp)))
    have hsz : w.heap.size < w1.heap.size := by have := hb.size; simp at this; omega
    have e0 : w1.cell? ⟨w.heap.size, 0, none⟩ = some (.slice (some ⟨b, off, none⟩) n c) := by
      rw [hb.cell (p := ⟨w.heap.size, 0, none⟩) (by simp)]; exact cell_box _ _ _
    have E0 := Lib.hid e0
    clear hb
    go_wp2_with fail
    clear e0
    refine (l05Subrings_f b off n c B O C B2 O2 C2 f _ (HAt.out.below HB.out) HRg.out).mono ?_
    rintro e w6 ⟨g, cg, rfl, hgl, hrow, hb6⟩
    have HR := Lib.hid hrow
    have HG := Lib.hid (show w.heap.size ≤ g from Nat.le_trans HB.out.size hgl)
    have HB6 := Lib.hid (HB.out.trans (hb6.mono HB.out.size))
    clear hrow hgl hb6
    go_wp2_with fail
    go_ret2
    exact ⟨_, _, rfl, Or.inr ⟨g, rfl, HG.out, HR.out⟩, HB6.out⟩
set_option maxRecDepth 100000 in
theorem specSim_f (a : Option Addr) (n c : Nat) (M : Nat → Nat) (L : Nat → Nat → Nat) (f : Nat → Nat → Nat → Int) (w : World) (h : RdT w a n M L f) (hn : n ≤ 1048576) (hM : ∀ i, i < n → M i ≤ 1048576) (hL : ∀ i, i < n → ∀ j, j < M i → L i j ≤ 1048576) :
    Calls Try.prog 41 #[.agg #[.slice a n c]] w (BoolCode w (ringB n M L f && decide ((sbL n f).length = 2)) (cRg (ringB n M L f))) := by
  have HI := Lib.hid (fun u (hu : Below w.heap.size w u) => l03Is_f a n c M L f u (h.below hu (Nat.le_refl _)) hn hM hL)
  clear hM hL
  cases hr : ringB n M L f
  · rw [hr] at HI
    clear h hr
    go_enter Try.func41, Try.ntmps41
    go_wp2_with fail
    refine (HI.out _ (below_alloc _ _)).mono ?_
    rintro e w1 ⟨rfl, hb⟩
    have HB := Lib.hid ((below_alloc w (.cells #[.slice a n c] 28)).trans (hb.mono (by simp)))
    have hsz : w.heap.size < w1.heap.size := by have := hb.size; simp at this; omega
    have e0 : w1.cell? ⟨w.heap.size, 0, none⟩ = some (.slice a n c) := by
      rw [hb.cell (p := ⟨w.heap.size, 0, none⟩) (by simp)]; exact cell_box _ _ _
    have E0 := Lib.hid e0
    clear hb
    go_wp2_with fail
    go_ret2
    exact ⟨rfl, HB.out⟩
  · have HRg := Lib.hid (rng_of hr)
    obtain ⟨h0, h16, hf, hd, b, off, B, O, C, B2, O2, C2, rfl, hat⟩ := ring_open h hr
    have HAt := Lib.hid hat
    rw [hr] at HI
    clear h hd hf hr hat
    go_enter Try.func41, Try.ntmps41
    go_wp2_with fail
    refine (HI.out _ (below_alloc _ _)).mono ?_
    rintro e w1 ⟨rfl, hb⟩
    have HB := Lib.hid ((below_alloc w (.cells #[.slice (some ⟨b, off, none⟩) n c] 28)).trans (hb.mono (by simp)))
    have hsz : w.heap.size < w1.heap.size := by have := hb.size; simp at this; omega
    have e0 : w1.cell? ⟨w.heap.size, 0, none⟩ = some (.slice (some ⟨b, off, none⟩) n c) := by
      rw [hb.cell (p := ⟨w.heap.size, 0, none⟩) (by simp)]; exact cell_box _ _ _
    have E0 := Lib.hid e0
    clear hb
    go_wp2_with fail
    clear e0
    refine (l05Subrings_f b off n c B O C B2 O2 C2 f _ (HAt.out.below HB.out) HRg.out).mono ?_
    rintro e w6 ⟨g, cg, rfl, hgl, hrow, hb6⟩
    have HB6 := Lib.hid (HB.out.trans (hb6.mono HB.out.size))
    clear hrow hgl hb6
    obtain ⟨len, hlen⟩ : ∃ len, len = (sbL n f).length := ⟨_, rfl⟩
    rw [← hlen]
    have HLn := Lib.hid hlen
    clear hlen
    by_cases e2 : len = 2
    · subst e2
      go_wp2_with fail
      go_ret2
      exact ⟨by rw [← HLn.out]; rfl, HB6.out⟩
    · have hd : ((len : Int) == 2) = false := by simp; omega
      go_wp2_with fail
      go_ret2
      exact ⟨by rw [← HLn.out, decide_eq_false e2]; rfl, HB6.out⟩
set_option maxRecDepth 100000 in
theorem implSim_f (a : Option Addr) (n c : Nat) (M : Nat → Nat) (L : Nat → Nat → Nat) (f : Nat → Nat → Nat → Int) (w : World) (h : RdT w a n M L f) (hn : n ≤ 1048576) (hM : ∀ i, i < n → M i ≤ 1048576) (hL : ∀ i, i < n → ∀ j, j < M i → L i j ≤ 1048576) :
    Calls Try.prog 42 #[.agg #[.slice a n c]] w (BoolCode w (ringB n M L f && decide ((sbL n f).length = 2)) (cRg (ringB n M L f))) := by
  have HI := Lib.hid (fun u (hu : Below w.heap.size w u) => implSbs_f a n c M L f u (h.below hu (Nat.le_refl _)) hn hM hL)
  clear hM hL h
  have hV : (ringB n M L f && decide ((sbL n f).length = 2)) = ((nRg (ringB n M L f) (sbL n f).length : Int) == 2) := by
    cases hr : ringB n M L f
    · rfl
    · by_cases e : (sbL n f).length = 2
      · rw [decide_eq_true e]; simp [nRg, e]
      · rw [decide_eq_false e]
        simp only [nRg, if_true, Bool.and_false]
        simp; omega
  rw [hV]
  clear hV
  obtain ⟨N, hN⟩ : ∃ N, N = nRg (ringB n M L f) (sbL n f).length := ⟨_, rfl⟩
  obtain ⟨cd, hcd⟩ : ∃ cd, cd = cRg (ringB n M L f) := ⟨_, rfl⟩
  rw [← hN, ← hcd] at HI
  rw [← hN, ← hcd]
  clear hN hcd
  go_enter Try.func42, Try.ntmps42
  go_wp2_with fail
  refine (HI.out _ (below_alloc _ _)).mono ?_
  rintro e w1 ⟨aa, ca, rfl, hown, hb⟩
  have HB := Lib.hid ((below_alloc w (.cells #[.slice a n c] 28)).trans (hb.mono (by simp)))
  clear hown hb
  go_wp2_with fail
  go_ret2
  exact ⟨rfl, HB.out⟩
theorem implSbs_f_rows (n : Nat) (M : Nat → Nat) (L : Nat → Nat → Nat) (f : Nat → Nat → Nat → Int) : nRg (ringB n M L f) (sbL n f).length ≤ 65536 := by
  unfold nRg
  cases hr : ringB n M L f
  · simp
  · have h16 := (rng_of hr).h16
    have hp := pow_le16 h16
    have := sbLM_len n f (2 ^ n)
    show (sbL n f).length ≤ 65536
    unfold sbL
    omega
end Go.Proofs.Ytpfodikmidgpmaa
