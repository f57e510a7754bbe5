/- CommonSpace of the program: what is read. -/
import Derived.Test.YtaffiohdjkbkkaaCsm
namespace Go.Proofs.Ytaffiohdjkbkkaa
open Go.RowKit
set_option linter.unusedSimpArgs false
def badM (M : Nat → Nat) (L : Nat → Nat → Nat) (f : Nat → Nat → Nat → Int) (i : Nat) : Bool := !matB (M i) (L i) (f i)
def allM (N : Nat) (M : Nat → Nat) (L : Nat → Nat → Nat) (f : Nat → Nat → Nat → Int) : Bool := decide (∀ i, i < N → matB (M i) (L i) (f i) = true)
theorem allM_t {N : Nat} {M : Nat → Nat} {L : Nat → Nat → Nat} {f : Nat → Nat → Nat → Int} (h : allM N M L f = true) : ∀ i, i < N → matB (M i) (L i) (f i) = true := of_decide_eq_true h
theorem allM_mk {N : Nat} {M : Nat → Nat} {L : Nat → Nat → Nat} {f : Nat → Nat → Nat → Int} (h : ∀ i, i < N → matB (M i) (L i) (f i) = true) : allM N M L f = true := decide_eq_true h
theorem allM_no {N k : Nat} {M : Nat → Nat} {L : Nat → Nat → Nat} {f : Nat → Nat → Nat → Int} (hk : k < N) (h : matB (M k) (L k) (f k) = false) : allM N M L f = false := decide_eq_false fun c => by rw [c k hk] at h; cases h
def sqOk (M : Nat → Nat) (L : Nat → Nat → Nat) (i : Nat) : Prop := M i = L i 0 ∧ M i = M 0
instance (M : Nat → Nat) (L : Nat → Nat → Nat) (i : Nat) : Decidable (sqOk M L i) := by unfold sqOk; exact inferInstance
def sqA (N : Nat) (M : Nat → Nat) (L : Nat → Nat → Nat) : Bool := decide (∀ i, i < N → sqOk M L i)
theorem sqA_no {N k : Nat} {M : Nat → Nat} {L : Nat → Nat → Nat} (hk : k < N) (h : ¬ sqOk M L k) : sqA N M L = false := decide_eq_false fun c => h (c k hk)
theorem sqA_mk {N : Nat} {M : Nat → Nat} {L : Nat → Nat → Nat} (h : ∀ i, i < N → sqOk M L i) : sqA N M L = true := decide_eq_true h
theorem sqA_t {N : Nat} {M : Nat → Nat} {L : Nat → Nat → Nat} (h : sqA N M L = true) : ∀ i, i < N → sqOk M L i := of_decide_eq_true h
def okRd (N : Nat) (M : Nat → Nat) (L : Nat → Nat → Nat) (f : Nat → Nat → Nat → Int) : Bool := allM N M L f && (decide (1 ≤ N ∧ N ≤ 16) && sqA N M L)
def cRd (N : Nat) (M : Nat → Nat) (L : Nat → Nat → Nat) (f : Nat → Nat → Nat → Int) : Int := if allM N M L f then (if okRd N M L f then 0 else 2) else 1
theorem readSq1_f (a : Option Addr) (n c : Nat) (L : Nat → Nat) (f : Nat → Nat → Int) (w : World) (h : RdM w a n L f) (hn : n ≤ 1048576) (hL : ∀ i, i < n → L i ≤ 1048576) :
    Calls Try.prog 112 #[.slice a n c] w fun e w' => e = .returned (.bool (!matB n L f)) ∧ w = w' := by
  have H := Lib.hid (isMatrix_f a n c L f w h (by omega) (fun i hi => Nat.le_trans (hL i hi) (by omega)))
  clear h hL
  generalize matB n L f = v at *
  go_enter Try.func112, Try.ntmps112
  go_wp2_with fail
  refine H.out.mono ?_
  rintro e w1 ⟨rfl, rfl⟩
  go_wp2_with fail
  go_ret
  exact ⟨rfl, rfl⟩
theorem indexMx_f (a : Option Addr) (N c : Nat) (M : Nat → Nat) (L : Nat → Nat → Nat) (f : Nat → Nat → Nat → Int) (w : World) (h : RdT w a N M L f) (hn : N ≤ 1048576) (hM : ∀ i, i < N → M i ≤ 1048576) (hL : ∀ i, i < N → ∀ j, j < M i → L i j ≤ 1048576) :
    Calls Try.prog 162 #[.slice a N c, .func (.func 112) #[] #[]] w fun e w' => e = .returned (.int .i64 (idx (badM M L f) N)) ∧ w = w' := by
  have H := Lib.hid h
  have HM := Lib.hid hM
  have HL := Lib.hid hL
  clear h hM hL
  go_enter Try.func162, Try.ntmps162
  go_wp2_with fail
  go_loop [8] (fun i => ∃ k : Nat, k ≤ N ∧ i = .int .i64 k ∧ ∀ j, j < k → badM M L f j = false) (fun i => N - (intOf i).toNat)
  case atStart => exact ⟨0, by omega, rfl, fun j hj => absurd hj (by omega)⟩
  case round =>
    obtain ⟨k, hk, rfl, hall⟩ := hrel
    have HB := Lib.hid hall
    clear hall
    by_cases hlt : k < N
    · obtain ⟨bl, off, A, C, rfl, hb, hc⟩ := H.out.open (by omega)
      have hcs := (hc k hlt).1
      have HX := Lib.hid (readSq1_f (A k) (M k) (C k) (L k) (f k) w (hc k hlt).2 (HM.out k hlt) (HL.out k hlt))
      clear hc
      generalize A k = ak at *
      generalize C k = ck at *
      cases ho : badM M L f k
      · have HF := Lib.hid (show ∀ j, j < k + 1 → badM M L f j = false from fun j hj => by
          by_cases e : j = k
          · rw [e]; exact ho
          · exact HB.out j (by omega))
        rw [show (!matB (M k) (L k) (f k)) = false from ho] at HX
        clear ho
        generalize M k = mk at *
        go_wp2_with (go_at_call 112; refine HX.out.mono ?_; rintro e w' ⟨rfl, rfl⟩)
        go_round
        case rel => exact ⟨k + 1, by omega, by go_num, HF.out⟩
        case measure => simp [intOf]; omega
      · have HF := Lib.hid (idx_hit hlt ho HB.out)
        rw [show (!matB (M k) (L k) (f k)) = true from ho] at HX
        clear ho
        generalize hmk : M k = mk at hcs HX
        clear hmk
        go_wp2_with (go_at_call 112; refine HX.out.mono ?_; rintro e w' ⟨rfl, rfl⟩)
        go_ret
        exact ⟨ret_int HF.out.symm, rfl⟩
    · obtain rfl : k = N := by omega
      have HF := Lib.hid (idx_none HB.out)
      go_wp2_with fail
      go_ret
      exact ⟨ret_int HF.out.symm, rfl⟩
theorem idx_allM {N : Nat} {M : Nat → Nat} {L : Nat → Nat → Nat} {f : Nat → Nat → Nat → Int} : decide (0 ≤ idx (badM M L f) N) = !allM N M L f := by
  by_cases h : allM N M L f = true
  · rw [idx_none (fun i hi => by unfold badM; rw [allM_t h i hi]; rfl), h]; rfl
  · have h' : allM N M L f = false := by simpa using h
    rw [h']
    unfold idx
    by_cases e : ff (badM M L f) N < N
    · rw [if_pos e]; simp
    · exfalso
      refine h (allM_mk fun i hi => ?_)
      cases hh : matB (M i) (L i) (f i)
      · exact absurd (ff_lt hi (show badM M L f i = true by unfold badM; rw [hh]; rfl)) e
      · rfl
theorem containsMx_f (a : Option Addr) (N c : Nat) (M : Nat → Nat) (L : Nat → Nat → Nat) (f : Nat → Nat → Nat → Int) (w : World) (h : RdT w a N M L f) (hn : N ≤ 1048576) (hM : ∀ i, i < N → M i ≤ 1048576) (hL : ∀ i, i < N → ∀ j, j < M i → L i j ≤ 1048576) :
    Calls Try.prog 111 #[.slice a N c, .func (.func 112) #[] #[]] w fun e w' => e = .returned (.bool (!allM N M L f)) ∧ w = w' := by
  have HC := Lib.hid (indexMx_f a N c M L f w h hn hM hL)
  have hp := idx_allM (N := N) (M := M) (L := L) (f := f)
  clear h hM hL
  generalize idx (badM M L f) N = r at *
  generalize (!allM N M L f) = v at *
  go_enter Try.func111, Try.ntmps111
  go_wp2_with (go_at_call 162; refine HC.out.mono ?_; rintro e w' ⟨rfl, rfl⟩)
  go_ret
  exact ⟨rfl, rfl⟩
theorem AccS.rd {w0 w : World} {b cap n : Nat} {M : Nat → Nat} {L : Nat → Nat → Nat} {C B : Nat → Nat} {CC G : Nat → Nat → Nat} {f : Nat → Nat → Nat → Int} (h : AccS w0 w (.slice (some ⟨b, 0, none⟩) n cap) n M L C B CC G f) : RdT w (some ⟨b, 0, none⟩) n M L f := by
  have hr := RowB_of_own h.own
  refine Or.inr ⟨b, 0, fun i => some ⟨B i, 0, none⟩, C, rfl, hr.lt, fun i hi => ⟨?_, (h.row i hi).2.2.rd⟩⟩
  rw [Nat.zero_add]
  have := hr.cell hi
  rw [this]
  simp [List.getD, hi]
/-- what reading square matrices gives -/
def SqRes (w : World) (N : Nat) (M : Nat → Nat) (L : Nat → Nat → Nat) (f : Nat → Nat → Nat → Int) (e : Ending) (w' : World) : Prop :=
  (okRd N M L f = false ∧ e = .returned (.tuple #[.slice none 0 0, .int .i64 (cRd N M L f)]) ∧ Below w.heap.size w w') ∨
  (okRd N M L f = true ∧ ∃ g cg, e = .returned (.tuple #[.slice (some ⟨g, 0, none⟩) N cg, .int .i64 0]) ∧ RdT w' (some ⟨g, 0, none⟩) N M L f ∧ Below w.heap.size w w')
theorem okRd_all {N : Nat} {M : Nat → Nat} {L : Nat → Nat → Nat} {f : Nat → Nat → Nat → Int} (h : allM N M L f = false) : okRd N M L f = false := by simp [okRd, h]
theorem okRd_N {N : Nat} {M : Nat → Nat} {L : Nat → Nat → Nat} {f : Nat → Nat → Nat → Int} (h : ¬ (1 ≤ N ∧ N ≤ 16)) : okRd N M L f = false := by simp only [okRd, decide_eq_false h, Bool.false_and, Bool.and_false]
theorem okRd_sq {N : Nat} {M : Nat → Nat} {L : Nat → Nat → Nat} {f : Nat → Nat → Nat → Int} (h : sqA N M L = false) : okRd N M L f = false := by simp only [okRd, h, Bool.and_false]
theorem okRd_yes {N : Nat} {M : Nat → Nat} {L : Nat → Nat → Nat} {f : Nat → Nat → Nat → Int} (h1 : allM N M L f = true) (h2 : 1 ≤ N ∧ N ≤ 16) (h3 : sqA N M L = true) : okRd N M L f = true := by simp only [okRd, h1, h3, decide_eq_true h2, Bool.and_true]
theorem cRd_2 {N : Nat} {M : Nat → Nat} {L : Nat → Nat → Nat} {f : Nat → Nat → Nat → Int} (h1 : allM N M L f = true) (h : okRd N M L f = false) : cRd N M L f = 2 := by simp [cRd, h1, h]
set_option maxHeartbeats 4000000 in
set_option maxRecDepth 100000 in
theorem readSquares_f (a : Option Addr) (N c : Nat) (M : Nat → Nat) (L : Nat → Nat → Nat) (f : Nat → Nat → Nat → Int) (w : World) (h : RdT w a N M L f) (hn : N ≤ 1048576) (hM : ∀ i, i < N → M i ≤ 1048576) (hL : ∀ i, i < N → ∀ j, j < M i → L i j ≤ 1048576) :
    Calls Try.prog 64 #[.slice a N c] w (SqRes w N M L f) := by
  have HCt := Lib.hid (containsMx_f a N c M L f w h hn hM hL)
  cases hall : allM N M L f
  · rw [hall] at HCt
    have HE := Lib.hid (show cRd N M L f = 1 by simp [cRd, hall])
    have HO := Lib.hid (okRd_all hall)
    clear h hM hL hall
    go_enter Try.func64, Try.ntmps64
    go_wp2_with (go_at_call 111; refine HCt.out.mono ?_; rintro e w' ⟨rfl, rfl⟩)
    go_ret2
    exact Or.inl ⟨HO.out, by rw [HE.out]; rfl, Below.refl _ _⟩
  · rw [hall] at HCt
    have HAll := Lib.hid hall
    by_cases hN1 : N < 1
    · have hd1 : decide ((N : Int) < 1) = true := by simp; omega
      have HO := Lib.hid (okRd_N (M := M) (L := L) (f := f) (show ¬ (1 ≤ N ∧ N ≤ 16) by omega))
      clear h hM hL hall
      go_enter Try.func64, Try.ntmps64
      go_wp2_with (go_at_call 111; refine HCt.out.mono ?_; rintro e w' ⟨rfl, rfl⟩)
      go_ret2
      exact Or.inl ⟨HO.out, by rw [cRd_2 HAll.out HO.out]; rfl, Below.refl _ _⟩
    · have hd1 : decide ((N : Int) < 1) = false := by simp; omega
      by_cases hN2 : 16 < N
      · have hd2 : decide (16 < (N : Int)) = true := by simp; omega
        have HO := Lib.hid (okRd_N (M := M) (L := L) (f := f) (show ¬ (1 ≤ N ∧ N ≤ 16) by omega))
        clear h hM hL hall
        go_enter Try.func64, Try.ntmps64
        go_wp2_with (go_at_call 111; refine HCt.out.mono ?_; rintro e w' ⟨rfl, rfl⟩)
        go_ret2
        exact Or.inl ⟨HO.out, by rw [cRd_2 HAll.out HO.out]; rfl, Below.refl _ _⟩
      · have hd2 : decide (16 < (N : Int)) = false := by simp; omega
        have HA := Lib.hid (allM_t hall)
        have H := Lib.hid h
        have HNN := Lib.hid (show 1 ≤ N ∧ N ≤ 16 by omega)
        clear h hM hL hall
        go_enter Try.func64, Try.ntmps64
        go_wp2_with (go_at_call 111; refine HCt.out.mono ?_; rintro e w' ⟨rfl, rfl⟩)
        go_loopw [4, 20] (fun v x wr => ∃ (q g cg : Nat) (C B : Nat → Nat) (CC G : Nat → Nat → Nat), q ≤ N ∧ x = .int .i64 q ∧ v = .slice (some ⟨g, 0, none⟩) q cg ∧ AccS w wr (.slice (some ⟨g, 0, none⟩) q cg) q M L C B CC G f ∧ ∀ j, j < q → sqOk M L j) (fun _ x _ => N - (intOf x).toNat)
        case atStart => exact ⟨0, _, _, fun _ => 0, fun _ => 0, fun _ _ => 0, fun _ _ => 0, by omega, rfl, rfl, AccS.start _ _ _ _ _ _ _ _, fun j hj => absurd hj (by omega)⟩
        case round =>
          obtain ⟨q, g, cg, C', B', CC', G', hq, rfl, rfl, hacc, hok⟩ := hrel
          have HAc := Lib.hid hacc
          have HOk := Lib.hid hok
          clear hacc hok
          by_cases hqN : q < N
          · have HR := Lib.hid (H.out.below HAc.out.bel (Nat.le_refl _))
            obtain ⟨b, off, A, C, rfl, hb, hc⟩ := HR.out.open (by omega)
            have e1 := (hc q hqN).1
            have e2 := (hc 0 (by omega)).1
            have HRq := Lib.hid (hc q hqN).2
            obtain ⟨m1, m2, m3, m4, m5, m6⟩ := matB_dims (HA.out q hqN)
            obtain ⟨b2, o2, A2, C2, hA2, hb2, hc2⟩ := (hc q hqN).2.open m1
            have e3 := (hc2 0 m1).1
            rw [Nat.add_zero] at e2 e3
            clear hc hc2
            have HMx := Lib.hid (matrixOf_f (A q) (M q) (C q) (L q) (f q) wr HRq.out (by omega) (fun i hi => by have := m5 i hi; omega))
            have HL1 := Lib.hid (show M q ≤ maxLen by unfold maxLen; omega)
            obtain ⟨mq, hmq⟩ : ∃ x, x = M q := ⟨_, rfl⟩
            obtain ⟨lq, hlq⟩ : ∃ x, x = L q 0 := ⟨_, rfl⟩
            obtain ⟨m0, hm0⟩ : ∃ x, x = M 0 := ⟨_, rfl⟩
            have HMq := Lib.hid hmq
            have HLq := Lib.hid hlq
            have HM0 := Lib.hid hm0
            rw [← hmq] at e1 HMx m1
            rw [← hlq] at e3
            rw [← hm0] at e2
            rw [hA2] at e1 HMx
            generalize C q = cq at *
            generalize A 0 = a0 at *
            generalize C 0 = c0 at *
            generalize A2 0 = a20 at *
            generalize C2 0 = c20 at *
            clear hmq hlq hm0 m2 m3 m4 m5 m6 hA2
            by_cases h1 : mq = lq
            · have hx1 : ((mq : Int) != (lq : Int)) = false := by simp; omega
              by_cases h2 : mq = m0
              · have hx2 : ((mq : Int) != (m0 : Int)) = false := by simp; omega
                have HOk2 := Lib.hid (show ∀ j, j < q + 1 → sqOk M L j from fun j hj => by
                  by_cases e : j = q
                  · rw [e]; exact ⟨by rw [← HMq.out, ← HLq.out]; exact h1, by rw [← HMq.out, ← HM0.out]; exact h2⟩
                  · exact HOk.out j (by omega))
                clear h1 h2
                go_wp2_with fail
                refine HMx.out.mono ?_
                rintro e w2 ⟨rfl, hM2, hb2, -⟩
                have HM2 := Lib.hid hM2
                have HB2 := Lib.hid hb2
                have HK := Lib.hid (HAc.out.kept hb2)
                have hsz := HK.out.bel.size
                clear hM2 hb2 e1 e2 e3
                go_wp2_with (at_builtin; refine pushMx _ rfl _ _ rfl w.heap.size _ q _ rfl (HK.out.own.alloc _) ⟨w2.heap.size, 0, none⟩ (some ⟨wr.heap.size, 0, none⟩) mq mq rfl (cell_one_new _ _ _) (by omega) (by simp; omega) ?_; intro g3 c3 w3 hown3 hgr3)
                have HP := Lib.hid (HAc.out.push HB2.out HMq.out.symm (Nat.le_refl _) (by rw [HMq.out]; exact HL1.out) HM2.out _ hown3 hgr3)
                clear hown3 hgr3
                go_roundw
                case rel => exact ⟨q + 1, g3, c3, _, _, _, _, by omega, by go_num, rfl, HP.out, HOk2.out⟩
                case measure => simp [intOf]; omega
              · have hx2 : ((mq : Int) != (m0 : Int)) = true := by simp; omega
                have HO := Lib.hid (okRd_sq (f := f) (sqA_no (M := M) (L := L) hqN (fun h => h2 (by rw [HMq.out, HM0.out]; exact h.2))))
                clear h1 h2
                go_wp2_with fail
                go_ret2
                exact Or.inl ⟨HO.out, by rw [cRd_2 HAll.out HO.out]; rfl, HAc.out.bel⟩
            · have hx1 : ((mq : Int) != (lq : Int)) = true := by simp; omega
              have HO := Lib.hid (okRd_sq (f := f) (sqA_no (M := M) (L := L) hqN (fun h => h1 (by rw [HMq.out, HLq.out]; exact h.1))))
              clear h1
              go_wp2_with fail
              go_ret2
              exact Or.inl ⟨HO.out, by rw [cRd_2 HAll.out HO.out]; rfl, HAc.out.bel⟩
          · obtain rfl : q = N := by omega
            have HO := Lib.hid (okRd_yes HAll.out HNN.out (sqA_mk HOk.out))
            go_wp2_with fail
            go_ret2
            exact Or.inr ⟨HO.out, g, cg, rfl, HAc.out.rd, HAc.out.bel⟩
end Go.Proofs.Ytaffiohdjkbkkaa
