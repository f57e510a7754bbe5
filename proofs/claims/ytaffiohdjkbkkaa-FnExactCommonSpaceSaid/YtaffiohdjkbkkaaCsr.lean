/- CommonSpace of the program: the whole. -/
import Derived.Test.YtaffiohdjkbkkaaCsp
namespace Go.Proofs.Ytaffiohdjkbkkaa
open Go.RowKit
set_option linter.unusedSimpArgs false
def okV (N m : Nat) (v : Nat → Int) : Bool := decide (m = N) && allB m v
def okCom (N : Nat) (M : Nat → Nat) (L : Nat → Nat → Nat) (f : Nat → Nat → Nat → Int) (m : Nat) (v : Nat → Int) : Bool := okRd N M L f && okV N m v
def cCom (N : Nat) (M : Nat → Nat) (L : Nat → Nat → Nat) (f : Nat → Nat → Nat → Int) (m : Nat) (v : Nat → Int) : Int := if okRd N M L f then (if okV N m v then 0 else 2) else cRd N M L f
def comA (M : Nat → Nat) (f : Nat → Nat → Nat → Int) (v : Nat → Int) : Mat := stk (M 0) (lessK (fun i => kM (f i)) (kV v))
/-- what is read where all is right -/
theorem okRd_t {N : Nat} {M : Nat → Nat} {L : Nat → Nat → Nat} {f : Nat → Nat → Nat → Int} (h : okRd N M L f = true) : 1 ≤ N ∧ N ≤ 16 ∧ 0 < M 0 ∧ M 0 ≤ 16 ∧ (∀ i, i < N → M i = M 0) ∧ (∀ i, i < N → ∀ j, j < M i → L i j = M 0) ∧ ∀ i, i < N → ∀ a b, a < M 0 → b < M 0 → numB (f i a b) = true := by
  simp only [okRd, Bool.and_eq_true, decide_eq_true_eq] at h
  obtain ⟨h1, ⟨h2, h3⟩, h4⟩ := h
  have hs := sqA_t h4
  have hm := fun i hi => matB_dims (allM_t h1 i hi)
  obtain ⟨a1, a2, _⟩ := hm 0 (by omega)
  refine ⟨h2, h3, a1, a2, fun i hi => (hs i hi).2, fun i hi j hj => ?_, fun i hi a b ha hb => ?_⟩
  · obtain ⟨_, _, _, _, e, _⟩ := hm i hi
    rw [e j hj, ← (hs i hi).1, (hs i hi).2]
  · obtain ⟨_, _, _, _, _, e⟩ := hm i hi
    exact e a b (by rw [(hs i hi).2]; exact ha) (by rw [← (hs i hi).1, (hs i hi).2]; exact hb)
theorem okRd_rd {w : World} {a : Option Addr} {N : Nat} {M : Nat → Nat} {L : Nat → Nat → Nat} {f : Nat → Nat → Nat → Int} (h : RdT w a N M L f) (hr : okRd N M L f = true) : RdT w a N (fun _ => M 0) (fun _ _ => M 0) (fun i a b => vK (kM (f i) a b)) := by
  obtain ⟨_, _, _, _, e1, e2, e3⟩ := okRd_t hr
  refine h.congr e1 e2 fun i hi a ha b hb => ?_
  have := e3 i hi a b (by rw [← e1 i hi]; exact ha) (by rw [← e2 i hi a ha]; exact hb)
  obtain ⟨x, y⟩ := numB_t this
  exact (vK_kOf _ x y).symm
set_option maxHeartbeats 4000000 in
set_option maxRecDepth 100000 in
theorem implCom_f (a : Option Addr) (N c : Nat) (M : Nat → Nat) (L : Nat → Nat → Nat) (f : Nat → Nat → Nat → Int) (a2 : Option Addr) (m c2 : Nat) (v : Nat → Int) (w : World) (h : RdT w a N M L f) (hn : N ≤ 1048576) (hM : ∀ i, i < N → M i ≤ 1048576) (hL : ∀ i, i < N → ∀ j, j < M i → L i j ≤ 1048576) (h2 : RdR w a2 m v) (hm : m ≤ 1048576) :
    Calls Try.prog 15 #[.slice a N c, .slice a2 m c2] w (TabRes w (nIf (okCom N M L f m v) (kerQ (N * M 0) (M 0) (comA M f v))) (fun _ => M 0) (fun i j => vK (kerZ (N * M 0) (M 0) (comA M f v) i j)) (cCom N M L f m v)) := by
  have HR := Lib.hid (readSquares_f a N c M L f w h hn hM hL)
  have H2 := Lib.hid h2
  have HAr := Lib.hid (fun u (hu : Below w.heap.size w u) => areNumbers_f a2 m c2 v u (h2.below hu (Nat.le_refl _)) (by omega))
  clear h hM hL h2
  go_enter Try.func15, Try.ntmps15
  go_wp2_with fail
  refine HR.out.mono ?_
  intro e w1 hres
  rcases hres with ⟨ho, rfl, hb⟩ | ⟨ho, g, cg, rfl, hrd, hb⟩
  · have HO := Lib.hid ho
    have HB := Lib.hid hb
    have HC := Lib.hid (show cCom N M L f m v = cRd N M L f by simp [cCom, ho])
    have HN := Lib.hid (show nIf (okCom N M L f m v) (kerQ (N * M 0) (M 0) (comA M f v)) = 0 by simp [okCom, ho, nIf])
    have hne : (cRd N M L f != 0) = true := by
      unfold cRd; rw [ho]; split <;> rfl
    generalize cRd N M L f = cd at *
    clear ho hb
    go_wp2_with fail
    go_ret2
    exact tabRes_err HN.out HC.out.symm HB.out
  · have HO := Lib.hid ho
    have HB := Lib.hid hb
    have HRd := Lib.hid (okRd_rd hrd ho)
    obtain ⟨n1, n2, m1, m2, -, -, -⟩ := okRd_t ho
    have HC := Lib.hid (show cCom N M L f m v = if okV N m v then 0 else 2 by simp [cCom, ho])
    have HN := Lib.hid (show nIf (okCom N M L f m v) (kerQ (N * M 0) (M 0) (comA M f v)) = nIf (okV N m v) (kerQ (N * M 0) (M 0) (comA M f v)) by simp [okCom, ho])
    clear ho hb hrd
    cases hv : okV N m v
    · have HC2 := Lib.hid (show cCom N M L f m v = 2 by rw [HC.out, hv]; rfl)
      have HN2 := Lib.hid (show nIf (okCom N M L f m v) (kerQ (N * M 0) (M 0) (comA M f v)) = 0 by rw [HN.out, hv]; rfl)
      by_cases hmN : m = N
      · have hx : ((m : Int) != (N : Int)) = false := by simp; omega
        have hb2 : allB m v = false := by
          cases e : allB m v
          · rfl
          · rw [okV, e, decide_eq_true hmN] at hv; cases hv
        rw [hb2] at HAr
        clear hv hb2
        subst hmN
        go_wp2_with (go_at_call 65; refine (HAr.out _ HB.out).mono ?_; rintro e w' ⟨rfl, rfl⟩)
        go_ret2
        exact tabRes_err HN2.out HC2.out.symm HB.out
      · have hx : ((m : Int) != (N : Int)) = true := by simp; omega
        clear hv hmN
        go_wp2_with (go_at_call 65; refine (HAr.out _ HB.out).mono ?_; rintro e w' ⟨rfl, rfl⟩)
        go_ret2
        exact tabRes_err HN2.out HC2.out.symm HB.out
    · have HC2 := Lib.hid (show cCom N M L f m v = 0 by rw [HC.out, hv]; rfl)
      have HN2 := Lib.hid (show nIf (okCom N M L f m v) (kerQ (N * M 0) (M 0) (comA M f v)) = kerQ (N * M 0) (M 0) (comA M f v) by rw [HN.out, hv]; rfl)
      simp only [okV, Bool.and_eq_true, decide_eq_true_eq] at hv
      obtain ⟨rfl, hall⟩ := hv
      have hx : ((m : Int) != (m : Int)) = false := by simp
      rw [hall] at HAr
      have HV := Lib.hid (allB_t hall)
      clear hall
      go_wp2_with (go_at_call 65; refine (HAr.out _ HB.out).mono ?_; rintro e w' ⟨rfl, rfl⟩)
      refine (numbersOf_f a2 m c2 v w1 (H2.out.below HB.out (Nat.le_refl _)) (by omega)).mono ?_
      rintro e w2 ⟨rfl, hr2, hb2, -⟩
      have HB2 := Lib.hid (HB.out.trans (hb2.mono HB.out.size))
      have HX := Lib.hid (commonSpace_f (some ⟨g, 0, none⟩) (some ⟨w1.heap.size, 0, none⟩) m (M 0) cg m (fun i => kM (f i)) (kV v) w2 (HRd.out.below hb2 (Nat.le_refl _)) (hr2.rd.toK HV.out) (by omega) n2 m1 m2)
      clear hr2 hb2
      go_wp2_with fail
      refine HX.out.mono ?_
      rintro e w3 ⟨q, Z, g3, rfl, hq, hk, hM3, hB3⟩
      obtain ⟨k1, k2⟩ := ker_eq hq hk
      have HK1 := Lib.hid (show kerQ (m * M 0) (M 0) (comA M f v) = q from k1)
      have HK2 := Lib.hid k2
      have HM3 := Lib.hid hM3
      have HB3 := Lib.hid (HB2.out.trans (hB3.mono HB2.out.size))
      clear hM3 hB3 hk k1 k2 HX
      go_wp2_with fail
      refine (integers_f _ q _ (fun _ => M 0) _ _ HM3.out (by omega) (fun i hi => by omega)).mono ?_
      rintro e w4 ⟨rfl, hM4, hB4, -⟩
      have HM4 := Lib.hid (hM4.congr (g := fun i j => vK (kerZ (m * M 0) (M 0) (comA M f v) i j)) (fun i hi j hj => by rw [HK2.out i hi j hj]; rfl))
      have HB4 := Lib.hid (HB3.out.trans (hB4.mono HB3.out.size))
      clear hM4 hB4
      go_wp2_with fail
      go_ret2
      rw [HC2.out, HN2.out, HK1.out]
      exact ⟨_, _, rfl, own_of_matB (HM4.out.mono HB3.out.size), HB4.out⟩
theorem implCom_f_rows (N : Nat) (M : Nat → Nat) (L : Nat → Nat → Nat) (f : Nat → Nat → Nat → Int) (m : Nat) (v : Nat → Int) : nIf (okCom N M L f m v) (kerQ (N * M 0) (M 0) (comA M f v)) ≤ 64 := by
  unfold nIf
  split
  · rename_i h
    simp only [okCom, Bool.and_eq_true] at h
    obtain ⟨_, _, _, d, _⟩ := okRd_t h.1
    have := kerQ_le (N * M 0) (M 0) (comA M f v)
    omega
  · omega
theorem implCom_f_cols (N : Nat) (M : Nat → Nat) (L : Nat → Nat → Nat) (f : Nat → Nat → Nat → Int) (m : Nat) (v : Nat → Int) : ∀ i, i < nIf (okCom N M L f m v) (kerQ (N * M 0) (M 0) (comA M f v)) → M 0 ≤ 64 := by
  unfold nIf
  split
  · rename_i h
    simp only [okCom, Bool.and_eq_true] at h
    obtain ⟨_, _, _, d, _⟩ := okRd_t h.1
    intro i hi; omega
  · intro i hi; omega
end Go.Proofs.Ytaffiohdjkbkkaa
