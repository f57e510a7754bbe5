/- CommonSpace of the specification: the whole. -/
import Derived.Test.YtaffiohdjkbkkaaCss
namespace Go.Proofs.Ytaffiohdjkbkkaa
open Go.RowKit
set_option linter.unusedSimpArgs false
theorem okCom_all {N : Nat} {M : Nat → Nat} {L : Nat → Nat → Nat} {f : Nat → Nat → Nat → Int} {m : Nat} {v : Nat → Int} (h : allM N M L f = false) : okCom N M L f m v = false ∧ cCom N M L f m v = 1 := by
  have := okRd_all h
  exact ⟨by simp [okCom, this], by simp [cCom, this, cRd, h]⟩
theorem cCom_2 {N : Nat} {M : Nat → Nat} {L : Nat → Nat → Nat} {f : Nat → Nat → Nat → Int} {m : Nat} {v : Nat → Int} (h : allM N M L f = true) (h2 : okCom N M L f m v = false) : cCom N M L f m v = 2 := by
  unfold cCom
  cases e : okRd N M L f
  · simp [cRd_2 h e]
  · cases e2 : okV N m v
    · simp
    · rw [okCom, e, e2] at h2; cases h2
theorem cCom_0 {N : Nat} {M : Nat → Nat} {L : Nat → Nat → Nat} {f : Nat → Nat → Nat → Int} {m : Nat} {v : Nat → Int} (h2 : okCom N M L f m v = true) : cCom N M L f m v = 0 := by
  simp only [okCom, Bool.and_eq_true] at h2
  simp [cCom, h2.1, h2.2]
theorem okCom_N {N : Nat} {M : Nat → Nat} {L : Nat → Nat → Nat} {f : Nat → Nat → Nat → Int} {m : Nat} {v : Nat → Int} (h : ¬ (1 ≤ N ∧ N ≤ 16)) : okCom N M L f m v = false := by simp only [okCom, okRd_N h, Bool.false_and]
theorem okCom_V {N : Nat} {M : Nat → Nat} {L : Nat → Nat → Nat} {f : Nat → Nat → Nat → Int} {m : Nat} {v : Nat → Int} (h : okV N m v = false) : okCom N M L f m v = false := by simp only [okCom, h, Bool.and_false]
theorem okCom_sq {N : Nat} {M : Nat → Nat} {L : Nat → Nat → Nat} {f : Nat → Nat → Nat → Int} {m : Nat} {v : Nat → Int} (h : sqA N M L = false) : okCom N M L f m v = false := by simp only [okCom, okRd_sq h, Bool.false_and]
/-- the answer where there is none -/
theorem comRes_no {N : Nat} {M : Nat → Nat} {L : Nat → Nat → Nat} {f : Nat → Nat → Nat → Int} {m : Nat} {v : Nat → Int} {w w' : World} {cd : Int} (h1 : okCom N M L f m v = false) (h2 : cCom N M L f m v = cd) (hb : Below w.heap.size w w') :
    TabRes w (nIf (okCom N M L f m v) (kerQ (N * M 0) (M 0) (comA M f v))) (fun _ => M 0) (fun i j => vK (kerZ (N * M 0) (M 0) (comA M f v) i j)) (cCom N M L f m v) (.returned (.tuple #[.slice none 0 0, .int .i64 cd])) w' :=
  tabRes_err (by rw [h1]; rfl) h2.symm hb
set_option maxHeartbeats 8000000 in
set_option maxRecDepth 100000 in
theorem specCom_f (a : Option Addr) (N c : Nat) (M : Nat → Nat) (L : Nat → Nat → Nat) (f : Nat → Nat → Nat → Int) (a2 : Option Addr) (m c2 : Nat) (v : Nat → Int) (w : World) (h : RdT w a N M L f) (hn : N ≤ 1048576) (hM : ∀ i, i < N → M i ≤ 1048576) (hL : ∀ i, i < N → ∀ j, j < M i → L i j ≤ 1048576) (h2 : RdR w a2 m v) (hm : m ≤ 1048576) :
    Calls Try.prog 12 #[.slice a N c, .slice a2 m c2] w (TabRes w (nIf (okCom N M L f m v) (kerQ (N * M 0) (M 0) (comA M f v))) (fun _ => M 0) (fun i j => vK (kerZ (N * M 0) (M 0) (comA M f v) i j)) (cCom N M L f m v)) := by
  have H := Lib.hid h
  have H2 := Lib.hid h2
  have HM := Lib.hid hM
  have HL := Lib.hid hL
  clear h hM hL h2
  go_enter Try.func12, Try.ntmps12
  go_wp2_with fail
  go_loopw [6] (fun x wr => ∃ k : Nat, k ≤ N ∧ x = .int .i64 k ∧ Drawn w wr ∧ ∀ j, j < k → matB (M j) (L j) (f j) = true) (fun x _ => N - (intOf x).toNat)
  case atStart => exact ⟨0, by omega, rfl, ⟨0, rfl⟩, fun j hj => absurd hj (by omega)⟩
  case round =>
    obtain ⟨k, hk, rfl, hd, hall⟩ := hrel
    have HD := Lib.hid hd
    have HA := Lib.hid hall
    clear hd hall
    by_cases hkN : k < N
    · obtain ⟨b, off, A, C, rfl, hb, hc⟩ := H.out.open (by omega)
      have e1 : wr.cell? ⟨b, off + k, none⟩ = some (.slice (A k) (M k) (C k)) := (HD.out.cell _).trans (hc k hkN).1
      have HI := Lib.hid (l02Is_f (A k) (M k) (C k) (L k) (f k) wr ((hc k hkN).2.below (HD.out.below (B := w.heap.size)) (Nat.le_refl _)) (by have := HM.out k hkN; omega) (fun i hi => by have := HL.out k hkN i hi; omega))
      clear hc
      generalize A k = ak at *
      generalize C k = ck at *
      cases hmk : matB (M k) (L k) (f k)
      · rw [hmk] at HI
        have HNo := Lib.hid (okCom_all (m := m) (v := v) (allM_no hkN hmk))
        clear hmk
        generalize M k = mk at *
        go_wp2_with fail
        refine HI.out.mono ?_
        rintro e w1 ⟨rfl, hd1⟩
        have HD1 := Lib.hid (HD.out.below.trans (hd1.below (B := w.heap.size)))
        clear hd1 e1
        go_wp2_with fail
        go_ret2
        exact comRes_no HNo.out.1 HNo.out.2 HD1.out
      · rw [hmk] at HI
        have HN := Lib.hid (show ∀ j, j < k + 1 → matB (M j) (L j) (f j) = true from fun j hj => by
          by_cases e : j = k
          · rw [e]; exact hmk
          · exact HA.out j (by omega))
        clear hmk
        generalize M k = mk at e1 HI
        go_wp2_with fail
        refine HI.out.mono ?_
        rintro e w1 ⟨rfl, hd1⟩
        have HD1 := Lib.hid (show Drawn w w1 by obtain ⟨x, rfl⟩ := hd1; exact HD.out.more x)
        clear hd1 e1
        go_wp2_with fail
        exact ⟨⟨k + 1, by omega, by go_num, HD1.out, HN.out⟩, by simp [intOf]; omega⟩
    · obtain rfl : k = N := by omega
      have HAll := Lib.hid (allM_mk HA.out)
      by_cases hN1 : k < 1
      · have hd1 : decide ((k : Int) < 1) = true := by simp; omega
        have HNo := Lib.hid (okCom_N (M := M) (L := L) (f := f) (m := m) (v := v) (show ¬ (1 ≤ k ∧ k ≤ 16) by omega))
        go_wp2_with fail
        go_ret2
        exact comRes_no HNo.out (cCom_2 HAll.out HNo.out) HD.out.below
      · have hd1 : decide ((k : Int) < 1) = false := by simp; omega
        by_cases hN2 : 16 < k
        · have hd2 : decide (16 < (k : Int)) = true := by simp; omega
          have HNo := Lib.hid (okCom_N (M := M) (L := L) (f := f) (m := m) (v := v) (show ¬ (1 ≤ k ∧ k ≤ 16) by omega))
          go_wp2_with fail
          go_ret2
          exact comRes_no HNo.out (cCom_2 HAll.out HNo.out) HD.out.below
        · have hd2 : decide (16 < (k : Int)) = false := by simp; omega
          by_cases hmN : m = k
          · subst hmN
            have hd3 : ((m : Int) != (m : Int)) = false := by simp
            have HNm := Lib.hid (l01Numbers_f a2 m c2 v wr (H2.out.below (HD.out.below (B := w.heap.size)) (Nat.le_refl _)) (by omega))
            cases hv : allB m v
            · rw [hv] at HNm
              have HNo := Lib.hid (okCom_V (M := M) (L := L) (f := f) (show okV m m v = false by simp [okV, hv]))
              clear hv
              go_wp2_with (go_at_call 62; refine HNm.out.mono ?_; rintro e w' ⟨rfl, rfl⟩)
              go_ret2
              exact comRes_no HNo.out (cCom_2 HAll.out HNo.out) HD.out.below
            · rw [hv] at HNm
              have HV := Lib.hid hv
              clear hv
              go_wp2_with (go_at_call 62; refine HNm.out.mono ?_; rintro e w' ⟨rfl, rfl⟩)
              go_loopw [7] (fun x wr => ∃ k : Nat, k ≤ m ∧ x = .int .i64 k ∧ Drawn w wr ∧ ∀ j, j < k → sqOk M L j) (fun x _ => m - (intOf x).toNat)
              case atStart => exact ⟨0, by omega, rfl, HD.out, fun j hj => absurd hj (by omega)⟩
              case round =>
                obtain ⟨k, hk, rfl, hd, hsq⟩ := hrel
                have HD := Lib.hid hd
                have HSq := Lib.hid hsq
                clear hd hsq
                by_cases hkm : k < m
                · obtain ⟨b, off, A, C, rfl, hb, hc⟩ := H.out.open (by omega)
                  have e1 : wr.cell? ⟨b, off + k, none⟩ = some (.slice (A k) (M k) (C k)) := (HD.out.cell _).trans (hc k hkm).1
                  have e2 : wr.cell? ⟨b, off, none⟩ = some (.slice (A 0) (M 0) (C 0)) := by
                    have := (hc 0 (by omega)).1
                    rw [Nat.add_zero] at this
                    exact (HD.out.cell _).trans this
                  obtain ⟨m1, m2, m3, m4, m5, m6⟩ := matB_dims (HA.out k hkm)
                  obtain ⟨b2, o2, A2, C2, hA2, hb2, hc2⟩ := (hc k hkm).2.open m1
                  have e3 : wr.cell? ⟨b2, o2, none⟩ = some (.slice (A2 0) (L k 0) (C2 0)) := by
                    have := (hc2 0 m1).1
                    rw [Nat.add_zero] at this
                    exact (HD.out.cell _).trans this
                  clear hc hc2
                  obtain ⟨mq, hmq⟩ : ∃ x, x = M k := ⟨_, rfl⟩
                  obtain ⟨lq, hlq⟩ : ∃ x, x = L k 0 := ⟨_, rfl⟩
                  obtain ⟨m0, hm0⟩ : ∃ x, x = M 0 := ⟨_, rfl⟩
                  have HMq := Lib.hid hmq
                  have HLq := Lib.hid hlq
                  have HM0 := Lib.hid hm0
                  rw [← hmq] at e1 m1
                  rw [← hlq] at e3
                  rw [← hm0] at e2
                  rw [hA2] at e1
                  generalize C k = cq at *
                  generalize A 0 = a0 at *
                  generalize C 0 = c0 at *
                  generalize A2 0 = a20 at *
                  generalize C2 0 = c20 at *
                  clear hmq hlq hm0 m2 m3 m4 m5 m6 hA2
                  by_cases h1 : mq = lq
                  · have hx1 : ((mq : Int) != (lq : Int)) = false := by simp; omega
                    by_cases h2 : mq = m0
                    · have hx2 : ((mq : Int) != (m0 : Int)) = false := by simp; omega
                      have HOk2 := Lib.hid (show ∀ j, j < k + 1 → sqOk M L j from fun j hj => by
                        by_cases e : j = k
                        · rw [e]; exact ⟨by rw [← HMq.out, ← HLq.out]; exact h1, by rw [← HMq.out, ← HM0.out]; exact h2⟩
                        · exact HSq.out j (by omega))
                      clear h1 h2
                      go_wp2_with fail
                      go_quiet (fail)
                      go_wp2_with fail
                      exact ⟨⟨k + 1, by omega, by go_num, HD.out.more _, HOk2.out⟩, by simp [intOf]; omega⟩
                    · have hx2 : ((mq : Int) != (m0 : Int)) = true := by simp; omega
                      have HNo := Lib.hid (okCom_sq (f := f) (m := m) (v := v) (sqA_no (M := M) (L := L) hkm (fun h => h2 (by rw [HMq.out, HM0.out]; exact h.2))))
                      clear h1 h2
                      go_wp2_with fail
                      go_quiet (fail)
                      go_wp2_with fail
                      go_ret2
                      exact comRes_no HNo.out (cCom_2 HAll.out HNo.out) (HD.out.more _).below
                  · have hx1 : ((mq : Int) != (lq : Int)) = true := by simp; omega
                    have HNo := Lib.hid (okCom_sq (f := f) (m := m) (v := v) (sqA_no (M := M) (L := L) hkm (fun h => h1 (by rw [HMq.out, HLq.out]; exact h.1))))
                    clear h1
                    go_wp2_with fail
                    go_quiet (fail)
                    go_wp2_with fail
                    go_ret2
                    exact comRes_no HNo.out (cCom_2 HAll.out HNo.out) (HD.out.more _).below
                · obtain rfl : k = m := by omega
                  have HOk := Lib.hid (okRd_yes HAll.out (show 1 ≤ k ∧ k ≤ 16 by omega) (sqA_mk HSq.out))
                  have HCm := Lib.hid (show okCom k M L f k v = true by simp [okCom, HOk.out, okV, HV.out])
                  obtain ⟨n1, n2, m1, m2, -, -, -⟩ := okRd_t HOk.out
                  have HX := Lib.hid (l02Common_f a a2 k (M 0) c c2 (fun i => kM (f i)) (kV v) wr (okRd_rd (H.out.below (HD.out.below (B := w.heap.size)) (Nat.le_refl _)) HOk.out) ((H2.out.below (HD.out.below (B := w.heap.size)) (Nat.le_refl _)).toK (allB_t HV.out)) (by omega) n2 m1 m2)
                  go_wp2_with fail
                  refine HX.out.mono ?_
                  rintro e w3 ⟨q, Z, hq, hk, b3, c3, C3, G3, y1, y2, rfl, hM3, hB3⟩
                  obtain ⟨k1, k2⟩ := ker_eq hq hk
                  have HK1 := Lib.hid (show kerQ (k * M 0) (M 0) (comA M f v) = q from k1)
                  have HM3 := Lib.hid (hM3.congr (g := fun i j => vK (kerZ (k * M 0) (M 0) (comA M f v) i j)) (fun i hi j hj => by rw [k2 i hi j hj]; rfl))
                  have HB3 := Lib.hid (HD.out.below.trans (hB3.mono (HD.out.below (B := w.heap.size)).size))
                  have HSz := Lib.hid (HD.out.below (B := w.heap.size)).size
                  clear hM3 hB3 hk k1 k2 y1 y2 HX
                  go_wp2_with fail
                  go_ret2
                  rw [cCom_0 HCm.out, HCm.out, show nIf true (kerQ (k * M 0) (M 0) (comA M f v)) = q from HK1.out]
                  exact ⟨_, _, rfl, own_of_matB (HM3.out.mono HSz.out), HB3.out⟩
          · have hd3 : ((m : Int) != (k : Int)) = true := by simp; omega
            have HNo := Lib.hid (okCom_V (M := M) (L := L) (f := f) (show okV k m v = false by simp [okV, hmN]))
            clear hmN
            go_wp2_with fail
            go_ret2
            exact comRes_no HNo.out (cCom_2 HAll.out HNo.out) HD.out.below
end Go.Proofs.Ytaffiohdjkbkkaa
