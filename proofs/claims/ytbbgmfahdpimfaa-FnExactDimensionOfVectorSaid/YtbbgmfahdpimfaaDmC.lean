/- Weights of a step of the specification; WeightsOf of both. -/
import Derived.Test.YtbbgmfahdpimfaaDmB
namespace Go.Proofs.Ytbbgmfahdpimfaa
open Go.RowKit
set_option linter.unusedSimpArgs false
set_option maxRecDepth 100000 in
theorem l04Weights_f (b off n c : Nat) (B O C : Nat → Nat) (B2 O2 C2 : Nat → Nat → Nat) (f : Nat → Nat → Nat → Int) (k : Nat) (w : World) (h : CubeAt w b off n B O C B2 O2 C2 f) (hn : n ≤ 16) (h0 : 0 < n) (hf : ∀ i j k, i < n → j < n → k < n → 0 ≤ f i j k ∧ f i j k ≤ 1000) (hk : k ≤ 40) :
    Calls Try.prog 45 #[.agg #[.slice (some ⟨b, off, none⟩) n c], .int .i64 k] w (WtRes w n f k) := by
  have H := Lib.hid h
  have HF := Lib.hid hf
  obtain ⟨W, hW⟩ : ∃ W, W = w.alloc (.cells #[.slice (some ⟨b, off, none⟩) n c] 29) := ⟨_, rfl⟩
  have HWe := Lib.hid hW
  have HW0 := Lib.hid (show Below w.heap.size w W by rw [hW]; exact below_alloc w _)
  have HWs := Lib.hid (show W.heap.size = w.heap.size + 1 by rw [hW]; simp)
  have KW := Lib.hid (show W.cell? ⟨w.heap.size, 0, none⟩ = some (.slice (some ⟨b, off, none⟩) n c) by rw [hW]; exact cell_box _ _ _)
  clear hW
  clear h hf
  go_enter Try.func45, Try.ntmps45
  go_wp2_with fail
  go_loopw [6, 7] (fun v x wr => ∃ (q g cg : Nat), q ≤ n ∧ x = .int .i64 q ∧ v = .slice (some ⟨g, 0, none⟩) q cg ∧ Acc W wr 2 (.slice (some ⟨g, 0, none⟩) q cg) q (fun _ => 1)) (fun _ x _ => n - (intOf x).toNat)
  case atStart => exact ⟨0, _, _, by omega, rfl, rfl, by rw [HWe.out]; simpa using Acc.start (w.alloc (.cells #[.slice (some ⟨b, off, none⟩) n c] 29)) 2 (fun _ => 1)⟩
  case round =>
    obtain ⟨q, g, cg, hq, rfl, rfl, hacc⟩ := hrel
    have HA := Lib.hid hacc
    clear hacc
    have e0 : wr.cell? ⟨w.heap.size, 0, none⟩ = some (.slice (some ⟨b, off, none⟩) n c) := by
      rw [HA.out.bel.cell (p := ⟨w.heap.size, 0, none⟩) (by rw [HWs.out]; show w.heap.size < _; omega)]; exact KW.out
    by_cases hqn : q < n
    · have hsz := HA.out.bel.size
      go_wp2_with (at_builtin; refine push64 _ rfl _ _ rfl W.heap.size _ q _ rfl (HA.out.own.alloc _) ⟨_, 0, none⟩ 1 rfl (cell_one_new _ _ _) (by omega) (by simp; omega) ?_; intro g3 c3 w3 hown3 hgr3)
      have HP := Lib.hid (HA.out.push _ rfl hown3 hgr3)
      clear hown3 hgr3
      go_roundw
      case rel => exact ⟨q + 1, g3, c3, by omega, by go_num, rfl, HP.out⟩
      case measure => simp [intOf]; omega
    · obtain rfl : q = n := by omega
      obtain ⟨hg, hcg1, hcg2, hrow⟩ := HA.out.done
      have HR0 := Lib.hid (show RowI wr 2 g q (wtZ q f 0) from hrow)
      have HG0 := Lib.hid hg
      have HB0 := Lib.hid HA.out.bel
      clear hrow hg HA
      go_wp2_with fail
      clear e0
      go_loopw [1, 6] (fun x v wr => ∃ (t s g cg : Nat), t + s = k ∧ x = .int .i64 s ∧ v = .slice (some ⟨g, 0, none⟩) q cg ∧ Below W.heap.size W wr ∧ W.heap.size ≤ g ∧ RowI wr 2 g q (wtZ q f t) ∧ ∀ s, s < t → leV 1000000 q (wtZ q f (s + 1)) = true) (fun x _ _ => (intOf x).toNat)
      case atStart => exact ⟨0, k, g, cg, by omega, rfl, rfl, HB0.out, HG0.out, HR0.out, fun s hs => absurd hs (by omega)⟩
      case round =>
        obtain ⟨t, s, g, cg, ht, rfl, rfl, hbl, hg, hrow, hall⟩ := hrel
        have HB := Lib.hid hbl
        have HR := Lib.hid hrow
        have HD := Lib.hid hall
        have HG := Lib.hid hg
        have HT := Lib.hid (show Below w.heap.size w wr from HW0.out.trans (hbl.mono (by rw [HWs.out]; omega)))
        clear hbl hrow hall hg
        by_cases hs : 0 < s
        · have e0 : wr.cell? ⟨w.heap.size, 0, none⟩ = some (.slice (some ⟨b, off, none⟩) q c) := (HB.out.cell (p := ⟨w.heap.size, 0, none⟩) (by rw [HWs.out]; show w.heap.size < _; omega)).trans KW.out
          have HX := Lib.hid (l04Next_f b off q c B O C B2 O2 C2 f (some ⟨g, 0, none⟩) cg (wtZ q f t) wr (H.out.below HT.out) (RowI.rd HR.out) hn h0 HF.out (fun k hk => by have := wt_bd HF.out HD.out k hk; omega))
          go_wp2_with fail
          clear e0
          refine HX.out.mono ?_
          rintro e w6 ⟨g4, rfl, hg4, hr4, hb4⟩
          have HB4 := Lib.hid (HB.out.trans (hb4.mono HB.out.size))
          have HT4 := Lib.hid (HT.out.trans (hb4.mono HT.out.size))
          have HR4 := Lib.hid (show RowI w6 2 g4 q (wtZ q f (t + 1)) from hr4)
          have HG4 := Lib.hid (show W.heap.size ≤ g4 from Nat.le_trans HB.out.size hg4)
          clear hg4 hr4 hb4 HX
          go_wp2_with fail
          go_loopw [8] (fun v wr => ∃ j : Nat, j ≤ q ∧ v = .int .i64 j ∧ wr = w6 ∧ ∀ p, p < j → wtZ q f (t + 1) p ≤ 1000000) (fun v _ => q - (intOf v).toNat)
          case atStart => exact ⟨0, by omega, rfl, rfl, fun q hq => absurd hq (by omega)⟩
          case round =>
            obtain ⟨j, hj, rfl, rfl, hq⟩ := hrel
            have HQ := Lib.hid hq
            clear hq
            by_cases hjn : j < q
            · have e1 : wr.cell? ⟨g4, j, none⟩ = some (.int .i64 (wtZ q f (t + 1) j)) := by simpa using RowB.cell HR4.out hjn
              obtain ⟨pz, hpz⟩ : ∃ v, v = wtZ q f (t + 1) j := ⟨_, rfl⟩
              rw [← hpz] at e1
              have EP := Lib.hid hpz
              clear hpz
              by_cases hgt : 1000000 < pz
              · have hd1 : decide (1000000 < pz) = true := by simpa using hgt
                have HN := Lib.hid (okT_no (show t < k by omega) (leV_no hjn (show 1000000 < wtZ q f (t + 1) j by rw [← EP.out]; exact hgt)))
                clear hgt
                go_wp2_with fail
                go_ret2
                exact Or.inr ⟨HN.out, rfl, HT4.out⟩
              · have hd1 : decide (1000000 < pz) = false := by simpa using hgt
                have HN := Lib.hid (show ∀ p, p < j + 1 → wtZ q f (t + 1) p ≤ 1000000 from fun p hp => by
                  by_cases e : p = j
                  · rw [e, ← EP.out]; omega
                  · exact HQ.out p (by omega))
                clear hgt
                go_wp2_with fail
                exact ⟨⟨j + 1, by omega, by go_num, trivial, HN.out⟩, by simp [intOf]; omega⟩
            · obtain rfl : j = q := by omega
              have HN := Lib.hid (show ∀ s, s < t + 1 → leV 1000000 j (wtZ j f (s + 1)) = true from fun s hs => by
                by_cases e : s = t
                · rw [e]; exact leV_mk HQ.out
                · exact HD.out s (by omega))
              obtain ⟨s', rfl⟩ : ∃ s', s = s' + 1 := ⟨s - 1, by omega⟩
              go_wp2_with fail
              exact ⟨⟨t + 1, s', g4, j, by omega, by go_num, rfl, HB4.out, HG4.out, HR4.out, HN.out⟩, by simp [intOf]⟩
        · obtain rfl : s = 0 := by omega
          obtain rfl : t = k := by omega
          have HN := Lib.hid (okT_mk HD.out)
          have HGw := Lib.hid (show w.heap.size ≤ g from by have := HG.out; have := HWs.out; omega)
          go_wp2_with fail
          go_ret2
          exact Or.inl ⟨HN.out, g, cg, rfl, HGw.out, HR.out, HT.out⟩
theorem isStep_any (t : Int) (w : World) : Calls Try.prog 48 #[.int .i64 t] w fun e w' => e = .returned (.bool (inB 0 20 t)) ∧ w = w' := by
  by_cases h : 0 ≤ t
  · have hd : decide (0 ≤ t) = true := by simp; omega
    by_cases h2 : t ≤ 20
    · have hd2 : decide (t ≤ 20) = true := by simp; omega
      have HF := Lib.hid (show true = inB 0 20 t from (inB_mk h h2).symm)
      go_enter Try.func48, Try.ntmps48
      go_wp2_with fail
      go_ret
      exact ⟨ret_bool HF.out, rfl⟩
    · have hd2 : decide (t ≤ 20) = false := by simp; omega
      have HF := Lib.hid (show false = inB 0 20 t from (inB_no (by omega)).symm)
      go_enter Try.func48, Try.ntmps48
      go_wp2_with fail
      go_ret
      exact ⟨ret_bool HF.out, rfl⟩
  · have hd : decide (0 ≤ t) = false := by simp; omega
    have HF := Lib.hid (show false = inB 0 20 t from (inB_no (by omega)).symm)
    go_enter Try.func48, Try.ntmps48
    go_wp2_with fail
    go_ret
    exact ⟨ret_bool HF.out, rfl⟩
set_option maxRecDepth 100000 in
theorem implWts_f (a : Option Addr) (n c : Nat) (M : Nat → Nat) (L : Nat → Nat → Nat) (f : Nat → Nat → Nat → Int) (t : Int) (w : World) (h : RdT w a n M L f) (hn : n ≤ 1048576) (hM : ∀ i, i < n → M i ≤ 1048576) (hL : ∀ i, i < n → ∀ j, j < M i → L i j ≤ 1048576) (_ : (Lit.int .i64 t).wf = true) :
    Calls Try.prog 16 #[.agg #[.slice a n c], .int .i64 t] w (RowRes w (nRg (ringB n M L f && inB 0 20 t && okT n f t.toNat) n) (wtZ n f t.toNat) (cPow (ringB n M L f) (inB 0 20 t) (okT n f t.toNat))) := by
  have HI := Lib.hid (fun u (hu : Below w.heap.size w u) => implIsRing_f a n c M L f u (h.below hu (Nat.le_refl _)) hn hM hL)
  have HS := Lib.hid (fun u => isStep_any t u)
  clear hM hL
  cases hr : ringB n M L f
  · rw [hr] at HI
    clear h hr HS
    go_enter Try.func16, Try.ntmps16
    go_wp2_with fail
    refine (HI.out _ (below_alloc _ _)).mono ?_
    rintro e w1 ⟨rfl, hb⟩
    have HB := Lib.hid ((below_alloc w (.cells #[.slice a n c] 29)).trans (hb.mono (by simp)))
    have hsz : w.heap.size < w1.heap.size := by have := hb.size; simp at this; omega
    have e0 : w1.cell? ⟨w.heap.size, 0, none⟩ = some (.slice a n c) := by
      rw [hb.cell (p := ⟨w.heap.size, 0, none⟩) (by simp)]; exact cell_box _ _ _
    have E0 := Lib.hid e0
    clear hb
    go_wp2_with fail
    go_ret2
    exact rowRes_none rfl rfl HB.out
  · obtain ⟨h0, h16, hf, hd, b, off, B, O, C, B2, O2, C2, rfl, hat⟩ := ring_open h hr
    rw [hr] at HI
    cases hs : inB 0 20 t
    · rw [hs] at HS
      clear h hr hat hf hd hs
      go_enter Try.func16, Try.ntmps16
      go_wp2_with fail
      refine (HI.out _ (below_alloc _ _)).mono ?_
      rintro e w1 ⟨rfl, hb⟩
      have HB := Lib.hid ((below_alloc w (.cells #[.slice (some ⟨b, off, none⟩) n c] 29)).trans (hb.mono (by simp)))
      have hsz : w.heap.size < w1.heap.size := by have := hb.size; simp at this; omega
      have e0 : w1.cell? ⟨w.heap.size, 0, none⟩ = some (.slice (some ⟨b, off, none⟩) n c) := by
        rw [hb.cell (p := ⟨w.heap.size, 0, none⟩) (by simp)]; exact cell_box _ _ _
      have E0 := Lib.hid e0
      clear hb
      go_wp2_with fail
      refine (HS.out _).mono ?_
      rintro e w2 ⟨rfl, rfl⟩
      go_wp2_with fail
      go_ret2
      exact rowRes_none rfl rfl HB.out
    · rw [hs] at HS
      have hr2 := inB_t hs
      obtain ⟨t', rfl⟩ : ∃ t' : Nat, t = t' := ⟨t.toNat, by omega⟩
      have HA := Lib.hid (fun u (hu : Below w.heap.size w u) => weights_f b off n c B O C B2 O2 C2 f t' u (hat.below hu) h16 h0 hf (by omega))
      clear h hr hat hf hd hs hr2
      go_enter Try.func16, Try.ntmps16
      go_wp2_with fail
      refine (HI.out _ (below_alloc _ _)).mono ?_
      rintro e w1 ⟨rfl, hb⟩
      have HB := Lib.hid ((below_alloc w (.cells #[.slice (some ⟨b, off, none⟩) n c] 29)).trans (hb.mono (by simp)))
      have hsz : w.heap.size < w1.heap.size := by have := hb.size; simp at this; omega
      have e0 : w1.cell? ⟨w.heap.size, 0, none⟩ = some (.slice (some ⟨b, off, none⟩) n c) := by
        rw [hb.cell (p := ⟨w.heap.size, 0, none⟩) (by simp)]; exact cell_box _ _ _
      have E0 := Lib.hid e0
      clear hb
      go_wp2_with fail
      refine (HS.out _).mono ?_
      rintro e w2 ⟨rfl, rfl⟩
      go_wp2_with fail
      clear e0
      refine (HA.out _ HB.out).mono ?_
      intro e w3 hres
      rcases hres with ⟨hok, g, cg, rfl, hg, hrow, hb3⟩ | ⟨hok, rfl, hb3⟩
      · have HO := Lib.hid (show okT n f ((t' : Int).toNat) = true by simpa using hok)
        have HB3 := Lib.hid (HB.out.trans (hb3.mono HB.out.size))
        have HG := Lib.hid (show w.heap.size ≤ g from Nat.le_trans HB.out.size hg)
        have HQ := Lib.hid hrow
        clear hok hb3 hg hrow
        go_wp2_with fail
        go_ret2
        rw [HO.out]
        exact ⟨some ⟨g, 0, none⟩, cg, rfl, Or.inr ⟨g, rfl, HG.out, HQ.out⟩, HB3.out⟩
      · have HO := Lib.hid (show okT n f ((t' : Int).toNat) = false by simpa using hok)
        have HB3 := Lib.hid (HB.out.trans (hb3.mono HB.out.size))
        clear hok hb3
        go_wp2_with fail
        go_ret2
        rw [HO.out]
        exact rowRes_none rfl rfl HB3.out
set_option maxRecDepth 100000 in
theorem specWts_f (a : Option Addr) (n c : Nat) (M : Nat → Nat) (L : Nat → Nat → Nat) (f : Nat → Nat → Nat → Int) (t : Int) (w : World) (h : RdT w a n M L f) (hn : n ≤ 1048576) (hM : ∀ i, i < n → M i ≤ 1048576) (hL : ∀ i, i < n → ∀ j, j < M i → L i j ≤ 1048576) (_ : (Lit.int .i64 t).wf = true) :
    Calls Try.prog 14 #[.agg #[.slice a n c], .int .i64 t] w (RowRes w (nRg (ringB n M L f && inB 0 20 t && okT n f t.toNat) n) (wtZ n f t.toNat) (cPow (ringB n M L f) (inB 0 20 t) (okT n f t.toNat))) := by
  have HI := Lib.hid (fun u (hu : Below w.heap.size w u) => l03Is_f a n c M L f u (h.below hu (Nat.le_refl _)) hn hM hL)
  have HS := Lib.hid (fun u => l01In_any t 0 20 u)
  clear hM hL
  cases hr : ringB n M L f
  · rw [hr] at HI
    clear h hr HS
    go_enter Try.func14, Try.ntmps14
    go_wp2_with fail
    refine (HI.out _ (below_alloc _ _)).mono ?_
    rintro e w1 ⟨rfl, hb⟩
    have HB := Lib.hid ((below_alloc w (.cells #[.slice a n c] 29)).trans (hb.mono (by simp)))
    have hsz : w.heap.size < w1.heap.size := by have := hb.size; simp at this; omega
    have e0 : w1.cell? ⟨w.heap.size, 0, none⟩ = some (.slice a n c) := by
      rw [hb.cell (p := ⟨w.heap.size, 0, none⟩) (by simp)]; exact cell_box _ _ _
    have E0 := Lib.hid e0
    clear hb
    go_wp2_with fail
    go_ret2
    exact rowRes_none rfl rfl HB.out
  · obtain ⟨h0, h16, hf, hd, b, off, B, O, C, B2, O2, C2, rfl, hat⟩ := ring_open h hr
    rw [hr] at HI
    cases hs : inB 0 20 t
    · rw [hs] at HS
      clear h hr hat hf hd hs
      go_enter Try.func14, Try.ntmps14
      go_wp2_with fail
      refine (HI.out _ (below_alloc _ _)).mono ?_
      rintro e w1 ⟨rfl, hb⟩
      have HB := Lib.hid ((below_alloc w (.cells #[.slice (some ⟨b, off, none⟩) n c] 29)).trans (hb.mono (by simp)))
      have hsz : w.heap.size < w1.heap.size := by have := hb.size; simp at this; omega
      have e0 : w1.cell? ⟨w.heap.size, 0, none⟩ = some (.slice (some ⟨b, off, none⟩) n c) := by
        rw [hb.cell (p := ⟨w.heap.size, 0, none⟩) (by simp)]; exact cell_box _ _ _
      have E0 := Lib.hid e0
      clear hb
      go_wp2_with fail
      refine (HS.out _).mono ?_
      rintro e w2 ⟨rfl, rfl⟩
      go_wp2_with fail
      go_ret2
      exact rowRes_none rfl rfl HB.out
    · rw [hs] at HS
      have hr2 := inB_t hs
      obtain ⟨t', rfl⟩ : ∃ t' : Nat, t = t' := ⟨t.toNat, by omega⟩
      have HA := Lib.hid (fun u (hu : Below w.heap.size w u) => l04Weights_f b off n c B O C B2 O2 C2 f t' u (hat.below hu) h16 h0 hf (by omega))
      clear h hr hat hf hd hs hr2
      go_enter Try.func14, Try.ntmps14
      go_wp2_with fail
      refine (HI.out _ (below_alloc _ _)).mono ?_
      rintro e w1 ⟨rfl, hb⟩
      have HB := Lib.hid ((below_alloc w (.cells #[.slice (some ⟨b, off, none⟩) n c] 29)).trans (hb.mono (by simp)))
      have hsz : w.heap.size < w1.heap.size := by have := hb.size; simp at this; omega
      have e0 : w1.cell? ⟨w.heap.size, 0, none⟩ = some (.slice (some ⟨b, off, none⟩) n c) := by
        rw [hb.cell (p := ⟨w.heap.size, 0, none⟩) (by simp)]; exact cell_box _ _ _
      have E0 := Lib.hid e0
      clear hb
      go_wp2_with fail
      refine (HS.out _).mono ?_
      rintro e w2 ⟨rfl, rfl⟩
      go_wp2_with fail
      clear e0
      refine (HA.out _ HB.out).mono ?_
      intro e w3 hres
      rcases hres with ⟨hok, g, cg, rfl, hg, hrow, hb3⟩ | ⟨hok, rfl, hb3⟩
      · have HO := Lib.hid (show okT n f ((t' : Int).toNat) = true by simpa using hok)
        have HB3 := Lib.hid (HB.out.trans (hb3.mono HB.out.size))
        have HG := Lib.hid (show w.heap.size ≤ g from Nat.le_trans HB.out.size hg)
        have HQ := Lib.hid hrow
        clear hok hb3 hg hrow
        go_wp2_with fail
        go_ret2
        rw [HO.out]
        exact ⟨some ⟨g, 0, none⟩, cg, rfl, Or.inr ⟨g, rfl, HG.out, HQ.out⟩, HB3.out⟩
      · have HO := Lib.hid (show okT n f ((t' : Int).toNat) = false by simpa using hok)
        have HB3 := Lib.hid (HB.out.trans (hb3.mono HB.out.size))
        clear hok hb3
        go_wp2_with fail
        go_ret2
        rw [HO.out]
        exact rowRes_none rfl rfl HB3.out
theorem implWts_f_rows (n : Nat) (M : Nat → Nat) (L : Nat → Nat → Nat) (f : Nat → Nat → Nat → Int) (t : Int) : nRg (ringB n M L f && inB 0 20 t && okT n f t.toNat) n ≤ 64 := by
  cases hr : ringB n M L f
  · simp [nRg]
  · have := (cub_num (ringB_t hr).1).2.1
    unfold nRg; split <;> omega
end Go.Proofs.Ytbbgmfahdpimfaa
