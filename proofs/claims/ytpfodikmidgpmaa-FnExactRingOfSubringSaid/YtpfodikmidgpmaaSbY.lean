/- RingOfSubring of both. -/
import Derived.Test.YtpfodikmidgpmaaSbX
import Derived.Test.YtpfodikmidgpmaaSbT
namespace Go.Proofs.Ytpfodikmidgpmaa
open Go.RowKit
set_option linter.unusedSimpArgs false
set_option linter.unusedVariables false
attribute [local go_sem] Oper.semAt_some
theorem lbl_pos {s : Nat} (h : s.testBit 0 = true) : 0 < (lbl s).length := by
  unfold lbl lbM
  apply List.length_pos_of_mem (a := 0)
  simp [h]
set_option maxHeartbeats 8000000 in
set_option maxRecDepth 100000 in
theorem implRos_f (a : Option Addr) (n c : Nat) (M : Nat → Nat) (L : Nat → Nat → Nat) (f : Nat → Nat → Nat → Int) (k : Int) (w : World) (h : RdT w a n M L f) (hn : n ≤ 1048576) (hM : ∀ i, i < n → M i ≤ 1048576) (hL : ∀ i, i < n → ∀ j, j < M i → L i j ≤ 1048576) (hk : (Lit.int .i64 k).wf = true) :
    Calls Try.prog 29 #[.agg #[.slice a n c], .int .i64 k] w (RingRes w (nRg (ringB n M L f && (setB n k && sbrB n f k.toNat)) (lbl k.toNat).length) (fun _ => (lbl k.toNat).length) (fun _ _ => (lbl k.toNat).length) (ren f (lbl k.toNat)) (cState (ringB n M L f) (setB n k) (sbrB n f k.toNat))) := by
  have HI := Lib.hid (fun u (hu : Below w.heap.size w u) => subringCode_f a n c M L f k u (h.below hu (Nat.le_refl _)) hn hM hL hk)
  clear hM hL
  obtain ⟨W, hW⟩ : ∃ W, W = (w.alloc (.cells #[.slice a n c] 28)).alloc (.cells #[.slice none 0 0] 28) := ⟨_, rfl⟩
  have HW0 := Lib.hid (show Below w.heap.size w W by rw [hW]; exact ((Below.refl _ _).alloc (Nat.le_refl _) _).alloc (by simp) _)
  have HWs := Lib.hid (show W.heap.size = w.heap.size + 2 by rw [hW]; simp)
  have KW := Lib.hid (show W.cell? ⟨w.heap.size, 0, none⟩ = some (.slice a n c) by rw [hW, World.cell?_alloc_lt _ _ _ (by simp)]; exact cell_box _ _ _)
  have KR := Lib.hid (show RowB W 28 (w.heap.size + 1) 1 (fun _ => .slice none 0 0) by
    rw [hW]
    have := row_one (w.alloc (.cells #[.slice a n c] 28)) (.slice none 0 0) 28
    simpa using this)
  have HWe := Lib.hid hW
  clear hW
  by_cases hok : ringB n M L f = true ∧ setB n k = true ∧ sbrB n f k.toNat = true
  · obtain ⟨hr, hs, ht⟩ := hok
    obtain ⟨h0, h16, hf, hd, b, off, B, O, C, B2, O2, C2, rfl, hat⟩ := ring_open h hr
    have HA := Lib.hid (fun u (hu : Below w.heap.size w u) => hat.below hu)
    rw [hr, hs, ht] at HI
    rw [hr, hs, ht]
    obtain ⟨s, rfl, hsl⟩ := setB_t hs
    have HV := Lib.hid (show cState true true true = 0 from rfl)
    rw [HV.out] at HI ⊢
    rw [Int.toNat_natCast] at ht ⊢
    have hp := pow_le16 h16
    have hs6 : s < 65536 := by omega
    have HP := Lib.hid (lbl_pos (sbrB_t.1 ht).2.1)
    have hm16 : (lbl s).length ≤ 16 := lbM_len s 16
    have HLt := Lib.hid (fun j (hj : j < (lbl s).length) => show (lbl s).getD j 0 < n from bit_lt hsl (lN_mem hs6 hj))
    have HN := Lib.hid (fun g c1 u (hu : Below w.heap.size w u) (hr : RowI u 2 g (lbl s).length (lF (lbl s))) => renumM_f b off n c B O C B2 O2 C2 f g c1 (lbl s).length (lbl s) u (HA.out u hu) hr HLt.out (by omega))
    have HC := Lib.hid (fun Bn u hB => collect_f s n Bn u hs6 hsl HP.out hB)
    have HLb := Lib.hid (labels_f s)
    have HNr := Lib.hid (show nRg (true && (true && true)) (lbl s).length = (lbl s).length from rfl)
    rw [HNr.out]
    clear h hd hf hr hat hs ht HNr
    obtain ⟨m, hm⟩ : ∃ m, m = (lbl s).length := ⟨_, rfl⟩
    rw [← hm] at hm16 HN HC HLt HP ⊢
    clear hm
    go_enter Try.func29, Try.ntmps29
    go_wp2_with fail
    rw [← HWe.out]
    refine (HI.out _ HW0.out).mono ?_
    rintro e w1 ⟨rfl, hb⟩
    have HB := Lib.hid (HW0.out.trans (hb.mono HW0.out.size))
    have HB0 := Lib.hid hb
    have e0 := (hb.cell (p := ⟨w.heap.size, 0, none⟩) (by rw [HWs.out]; show w.heap.size < _; omega)).trans KW.out
    have E0 := Lib.hid e0
    have hr := RowB.below KR.out hb (by rw [HWs.out]; omega)
    have e1 := RowB.cell hr (show 0 < 1 by omega)
    have e2 := RowB.frozen hr 0
    clear hb hr
    go_wp2_with fail
    clear e0
    have HZ := Lib.hid (show w.heap.size < w1.heap.size by have := HB0.out.size; have := HWs.out; omega)
    go_region_held3 (fun u => u.cell? ⟨w.heap.size, 0, none⟩ = some (.slice (some ⟨b, off, none⟩) n c)) (first | exact (World.cell?_setCell_far _ _ _ _ (by simp)).trans K4.out | exact K4.out | exact K3.out | exact K2.out | exact E0.out) (first | (have q9 := HR3.out; clear q9; go_at_call 65; refine (HN.out g cg _ (HB.out.trans (HB3.out.mono HB.out.size)) HR3.out).mono ?_; rintro e w4 ⟨g4, rfl, hc, hb4⟩; have HB4 := Lib.hid (HB3.out.trans (hb4.mono HB3.out.size)); have HD := Lib.hid (hc.mono (Nat.le_trans HB.out.size HB3.out.size) (Nat.le_refl _)); have HL := Lib.hid (show w.heap.size + 2 ≤ w3.heap.size by have := HB0.out.size; have := HWs.out; have := HB3.out.size; omega); have HD0 := Lib.hid hc; have K4 := Lib.hid ((HB4.out.cell (p := ⟨w.heap.size, 0, none⟩) HZ.out).trans E0.out); have hr4 := RowB.below KR.out (HB0.out.trans (HB4.out.mono HB0.out.size)) (by rw [HWs.out]; omega); have e1 := RowB.cell hr4 (show 0 < 1 by omega); have e2 := RowB.frozen hr4 0; have HR4 := Lib.hid hr4; clear hc hb4 hr4) | (have q9 := HX2.out; clear q9; go_at_call 66; refine (HC.out w1.heap.size _ (HX2.out)).mono ?_; rintro e w3 ⟨g, cg, rfl, hgl, hrow, hb3⟩; have HB3 := Lib.hid (HB2.out.trans (hb3.mono HB2.out.size)); have HR3 := Lib.hid hrow; have K3 := Lib.hid ((HB3.out.cell (p := ⟨w.heap.size, 0, none⟩) HZ.out).trans E0.out); clear hgl hrow hb3 HX2) | (go_at_call 67; refine (HLb.out _).mono ?_; rintro e w2 ⟨rfl, hw2⟩; have HB2 := Lib.hid (show Below w1.heap.size w1 w2 from by rw [hw2]; exact ((Below.refl _ _).drew.alloc (Nat.le_refl _) _)); have HS2 := Lib.hid (show w2.heap.size = w1.heap.size + 1 by rw [hw2]; simp); have HX2 := Lib.hid (show Boxed w2 w1.heap.size 58 (.int .i64 s) by rw [hw2]; exact Boxed.new _ _ _); have K2 := Lib.hid ((HB2.out.cell (p := ⟨w.heap.size, 0, none⟩) HZ.out).trans E0.out); clear hw2))
    have e3 := RowB.cell (HR4.out.set 0 (.slice (some ⟨g4, 0, none⟩) m m)) (show 0 < 1 by omega)
    rw [if_pos rfl] at e3
    have HO := Lib.hid (show Only (fun q => q = w.heap.size + 1) w4 (w4.setCell ⟨w.heap.size + 1, 0, none⟩ (.slice (some ⟨g4, 0, none⟩) m m)) from (Only.refl (fun q => q = w.heap.size + 1) w4).setCell (p := ⟨w.heap.size + 1, 0, none⟩) rfl _)
    have HB5 := Lib.hid (HB.out.trans (HB4.out.mono HB.out.size))
    go_wp2_with fail
    refine bodyPost_ret (v := .tuple #[.agg #[.slice (some ⟨g4, 0, none⟩) m m], .int .i64 0]) (by simp [results, Try.results29, go_sem, e3]) rfl ?_
    refine ⟨some ⟨g4, 0, none⟩, m, rfl, Or.inr ⟨g4, rfl, ?_⟩, HB5.out.setCell (by show w.heap.size ≤ w.heap.size + 1; omega) _⟩
    rw [HO.out.size]
    exact (HD0.out.only HO.out (fun k hk h => by have := HL.out; omega)).mono (by have := HL.out; omega) (Nat.le_refl _)
  · have hN : (ringB n M L f && (setB n k && sbrB n f k.toNat)) = false := by
      cases h1 : ringB n M L f <;> cases h2 : setB n k <;> cases h3 : sbrB n f k.toNat <;> simp_all
    have hC : cState (ringB n M L f) (setB n k) (sbrB n f k.toNat) = 1 ∨ cState (ringB n M L f) (setB n k) (sbrB n f k.toNat) = 2 ∨ cState (ringB n M L f) (setB n k) (sbrB n f k.toNat) = 5 := by
      cases h1 : ringB n M L f <;> cases h2 : setB n k <;> cases h3 : sbrB n f k.toNat <;> simp_all [cState]
    rw [hN]
    obtain ⟨v, hv⟩ : ∃ v, v = cState (ringB n M L f) (setB n k) (sbrB n f k.toNat) := ⟨_, rfl⟩
    rw [← hv] at hC HI ⊢
    clear hv hN hok h
    have hd : (v != 0) = true := by simp; omega
    go_enter Try.func29, Try.ntmps29
    go_wp2_with fail
    rw [← HWe.out]
    refine (HI.out _ HW0.out).mono ?_
    rintro e w1 ⟨rfl, hb⟩
    have HB := Lib.hid (HW0.out.trans (hb.mono HW0.out.size))
    have HBw := Lib.hid hb
    clear hb
    have hr := RowB.below KR.out HBw.out (by rw [HWs.out]; omega)
    have e1 := RowB.cell hr (show 0 < 1 by omega)
    have e2 := RowB.frozen hr 0
    have e3 := RowB.cell (hr.set 0 (.slice none 0 0)) (show 0 < 1 by omega)
    rw [if_pos rfl] at e3
    clear hr
    go_wp2_with fail
    refine bodyPost_ret (v := .tuple #[.agg #[.slice none 0 0], .int .i64 v]) (by simp [results, Try.results29, go_sem, e3]) rfl ?_
    exact ringRes_none rfl rfl (HB.out.setCell (by show w.heap.size ≤ w.heap.size + 1; omega) _)
set_option maxHeartbeats 8000000 in
set_option maxRecDepth 100000 in
theorem specRos_f (a : Option Addr) (n c : Nat) (M : Nat → Nat) (L : Nat → Nat → Nat) (f : Nat → Nat → Nat → Int) (k : Int) (w : World) (h : RdT w a n M L f) (hn : n ≤ 1048576) (hM : ∀ i, i < n → M i ≤ 1048576) (hL : ∀ i, i < n → ∀ j, j < M i → L i j ≤ 1048576) (hk : (Lit.int .i64 k).wf = true) :
    Calls Try.prog 28 #[.agg #[.slice a n c], .int .i64 k] w (RingRes w (nRg (ringB n M L f && (setB n k && sbrB n f k.toNat)) (lbl k.toNat).length) (fun _ => (lbl k.toNat).length) (fun _ _ => (lbl k.toNat).length) (ren f (lbl k.toNat)) (cState (ringB n M L f) (setB n k) (sbrB n f k.toNat))) := by
  have HI := Lib.hid (fun u (hu : Below w.heap.size w u) => l05Code_f a n c M L f k u (h.below hu (Nat.le_refl _)) hn hM hL)
  clear hM hL
  obtain ⟨W, hW⟩ : ∃ W, W = (w.alloc (.cells #[.slice a n c] 28)).alloc (.cells #[.slice none 0 0] 28) := ⟨_, rfl⟩
  have HW0 := Lib.hid (show Below w.heap.size w W by rw [hW]; exact ((Below.refl _ _).alloc (Nat.le_refl _) _).alloc (by simp) _)
  have HWs := Lib.hid (show W.heap.size = w.heap.size + 2 by rw [hW]; simp)
  have KW := Lib.hid (show W.cell? ⟨w.heap.size, 0, none⟩ = some (.slice a n c) by rw [hW, World.cell?_alloc_lt _ _ _ (by simp)]; exact cell_box _ _ _)
  have KR := Lib.hid (show RowB W 28 (w.heap.size + 1) 1 (fun _ => .slice none 0 0) by
    rw [hW]
    have := row_one (w.alloc (.cells #[.slice a n c] 28)) (.slice none 0 0) 28
    simpa using this)
  have HWe := Lib.hid hW
  clear hW
  by_cases hok : ringB n M L f = true ∧ setB n k = true
  · obtain ⟨hr, hs⟩ := hok
    have HRg := Lib.hid (rng_of hr)
    obtain ⟨h0, h16, hf, hd, b, off, B, O, C, B2, O2, C2, rfl, hat⟩ := ring_open h hr
    have HAt := Lib.hid hat
    rw [hr, hs] at HI
    rw [hr, hs]
    obtain ⟨s, rfl, hsl⟩ := setB_t hs
    have HV := Lib.hid (show cSF true true = 0 from rfl)
    rw [HV.out] at HI
    have HIs := Lib.hid (fun u (hu : Below w.heap.size w u) => l05Is_f b off n c B O C B2 O2 C2 f s u (HAt.out.below hu) HRg.out hsl)
    clear h hd hf hr hat hs
    rw [Int.toNat_natCast]
    have hm16 : (lbl s).length ≤ 16 := lbM_len s 16
    cases ht : sbrB n f s
    · have HX := Lib.hid (show cState true true false = 5 from rfl)
      rw [HX.out]
      have HY := Lib.hid (show nRg (true && (true && false)) (lbl s).length = 0 from rfl)
      rw [HY.out]
      go_enter Try.func28, Try.ntmps28
      go_wp2_with fail
      rw [← HWe.out]
      refine (HI.out _ HW0.out).mono ?_
      rintro e w0 ⟨rfl, hb⟩
      have HB0 := Lib.hid hb
      have e0 := (hb.cell (p := ⟨w.heap.size, 0, none⟩) (by rw [HWs.out]; show w.heap.size < _; omega)).trans KW.out
      clear hb
      go_wp2_with fail
      clear e0
      refine (HIs.out _ (HW0.out.trans (HB0.out.mono HW0.out.size))).mono ?_
      rintro e w1 ⟨r, rfl, hg, hb3⟩
      have hre := sbrB_of hg
      rw [ht] at hre
      subst hre
      have HBw := Lib.hid (HB0.out.trans (hb3.mono HB0.out.size))
      have HB := Lib.hid (HW0.out.trans (HBw.out.mono HW0.out.size))
      clear hg hb3
      have hr := RowB.below KR.out HBw.out (by rw [HWs.out]; omega)
      have e1 := RowB.cell hr (show 0 < 1 by omega)
      have e2 := RowB.frozen hr 0
      have e3 := RowB.cell (hr.set 0 (.slice none 0 0)) (show 0 < 1 by omega)
      rw [if_pos rfl] at e3
      clear hr
      go_wp2_with fail
      refine bodyPost_ret (v := .tuple #[.agg #[.slice none 0 0], .int .i64 5]) (by simp [results, Try.results28, go_sem, e3]) rfl ?_
      exact ringRes_none rfl rfl (HB.out.setCell (by show w.heap.size ≤ w.heap.size + 1; omega) _)
    · have HX := Lib.hid (show cState true true true = 0 from rfl)
      rw [HX.out]
      have HY := Lib.hid (show nRg (true && (true && true)) (lbl s).length = (lbl s).length from rfl)
      rw [HY.out]
      have HP := Lib.hid (lbl_pos (sbrB_t.1 ht).2.1)
      have HN := Lib.hid (fun u (hu : Below w.heap.size w u) => l05Ring_f b off n c B O C B2 O2 C2 f s u (HAt.out.below hu) h16 hsl HP.out)
      obtain ⟨m, hm⟩ : ∃ m, m = (lbl s).length := ⟨_, rfl⟩
      rw [← hm] at hm16 HN HP ⊢
      clear hm
      go_enter Try.func28, Try.ntmps28
      go_wp2_with fail
      rw [← HWe.out]
      refine (HI.out _ HW0.out).mono ?_
      rintro e w0 ⟨rfl, hb⟩
      have HB0 := Lib.hid hb
      have e0 := (hb.cell (p := ⟨w.heap.size, 0, none⟩) (by rw [HWs.out]; show w.heap.size < _; omega)).trans KW.out
      clear hb
      go_wp2_with fail
      clear e0
      refine (HIs.out _ (HW0.out.trans (HB0.out.mono HW0.out.size))).mono ?_
      rintro e w1 ⟨r, rfl, hg, hb3⟩
      have hre := sbrB_of hg
      rw [ht] at hre
      subst hre
      have HBw := Lib.hid (HB0.out.trans (hb3.mono HB0.out.size))
      have HB := Lib.hid (HW0.out.trans (HBw.out.mono HW0.out.size))
      have e0 := (HBw.out.cell (p := ⟨w.heap.size, 0, none⟩) (by rw [HWs.out]; show w.heap.size < _; omega)).trans KW.out
      clear hg hb3
      go_wp2_with fail
      clear e0
      refine (HN.out _ HB.out).mono ?_
      rintro e w4 ⟨g4, c4, rfl, hc, hb4⟩
      have HB4 := Lib.hid (HBw.out.trans (hb4.mono HBw.out.size))
      have HB5 := Lib.hid (HB.out.trans (hb4.mono HB.out.size))
      have HD0 := Lib.hid hc
      have HL := Lib.hid (show w.heap.size + 2 ≤ w1.heap.size by have := HBw.out.size; have := HWs.out; omega)
      have hr4 := RowB.below KR.out HB4.out (by rw [HWs.out]; omega)
      have e1 := RowB.cell hr4 (show 0 < 1 by omega)
      have e2 := RowB.frozen hr4 0
      have e3 := RowB.cell (hr4.set 0 (.slice (some ⟨g4, 0, none⟩) m c4)) (show 0 < 1 by omega)
      rw [if_pos rfl] at e3
      have HO := Lib.hid (show Only (fun q => q = w.heap.size + 1) w4 (w4.setCell ⟨w.heap.size + 1, 0, none⟩ (.slice (some ⟨g4, 0, none⟩) m c4)) from (Only.refl (fun q => q = w.heap.size + 1) w4).setCell (p := ⟨w.heap.size + 1, 0, none⟩) rfl _)
      clear hc hb4 hr4
      go_wp2_with fail
      refine bodyPost_ret (v := .tuple #[.agg #[.slice (some ⟨g4, 0, none⟩) m c4], .int .i64 0]) (by simp [results, Try.results28, go_sem, e3]) rfl ?_
      refine ⟨some ⟨g4, 0, none⟩, c4, rfl, Or.inr ⟨g4, rfl, ?_⟩, HB5.out.setCell (by show w.heap.size ≤ w.heap.size + 1; omega) _⟩
      rw [HO.out.size]
      exact (HD0.out.only HO.out (fun k hk h => by have := HL.out; omega)).mono (by have := HL.out; omega) (Nat.le_refl _)
  · have hN : (ringB n M L f && (setB n k && sbrB n f k.toNat)) = false := by
      cases h1 : ringB n M L f <;> cases h2 : setB n k <;> simp_all
    have hC : cState (ringB n M L f) (setB n k) (sbrB n f k.toNat) = cSF (ringB n M L f) (setB n k) := by
      cases h1 : ringB n M L f <;> cases h2 : setB n k <;> simp_all [cState, cSF]
    have hD : cSF (ringB n M L f) (setB n k) = 1 ∨ cSF (ringB n M L f) (setB n k) = 2 := by
      cases h1 : ringB n M L f <;> cases h2 : setB n k <;> simp_all [cSF]
    rw [hN, hC]
    obtain ⟨v, hv⟩ : ∃ v, v = cSF (ringB n M L f) (setB n k) := ⟨_, rfl⟩
    rw [← hv] at hD HI ⊢
    clear hv hN hok h hC
    have hd : (v != 0) = true := by simp; omega
    go_enter Try.func28, Try.ntmps28
    go_wp2_with fail
    rw [← HWe.out]
    refine (HI.out _ HW0.out).mono ?_
    rintro e w1 ⟨rfl, hb⟩
    have HB := Lib.hid (HW0.out.trans (hb.mono HW0.out.size))
    have HBw := Lib.hid hb
    clear hb
    have hr := RowB.below KR.out HBw.out (by rw [HWs.out]; omega)
    have e1 := RowB.cell hr (show 0 < 1 by omega)
    have e2 := RowB.frozen hr 0
    have e3 := RowB.cell (hr.set 0 (.slice none 0 0)) (show 0 < 1 by omega)
    rw [if_pos rfl] at e3
    clear hr
    go_wp2_with fail
    refine bodyPost_ret (v := .tuple #[.agg #[.slice none 0 0], .int .i64 v]) (by simp [results, Try.results28, go_sem, e3]) rfl ?_
    exact ringRes_none rfl rfl (HB.out.setCell (by show w.heap.size ≤ w.heap.size + 1; omega) _)
theorem implRos_f_rows (n : Nat) (M : Nat → Nat) (L : Nat → Nat → Nat) (f : Nat → Nat → Nat → Int) (k : Int) : nRg (ringB n M L f && (setB n k && sbrB n f k.toNat)) (lbl k.toNat).length ≤ 64 := by
  have : (lbl k.toNat).length ≤ 16 := lbM_len _ 16
  unfold nRg
  split <;> omega
theorem implRos_f_cols (n : Nat) (M : Nat → Nat) (L : Nat → Nat → Nat) (f : Nat → Nat → Nat → Int) (k : Int) : ∀ i, i < nRg (ringB n M L f && (setB n k && sbrB n f k.toNat)) (lbl k.toNat).length → (lbl k.toNat).length ≤ 64 := fun _ _ => by
  have : (lbl k.toNat).length ≤ 16 := lbM_len _ 16
  omega
theorem implRos_f_deep (n : Nat) (M : Nat → Nat) (L : Nat → Nat → Nat) (f : Nat → Nat → Nat → Int) (k : Int) : ∀ i, i < nRg (ringB n M L f && (setB n k && sbrB n f k.toNat)) (lbl k.toNat).length → ∀ j, j < (lbl k.toNat).length → (lbl k.toNat).length ≤ 64 := fun _ _ _ _ => by
  have : (lbl k.toNat).length ≤ 16 := lbM_len _ 16
  omega
end Go.Proofs.Ytpfodikmidgpmaa
