/- PowerOfLabel of the specification. -/
import Derived.Test.YtfiilhoojoaflaaRgiP
namespace Go.Proofs.Ytfiilhoojoaflaa
open Go.RowKit
set_option linter.unusedSimpArgs false
set_option maxHeartbeats 8000000 in
set_option maxRecDepth 100000 in
theorem specPow_f (a : Option Addr) (n c : Nat) (M : Nat → Nat) (L : Nat → Nat → Nat) (f : Nat → Nat → Nat → Int) (i k : Int) (w : World) (h : RdT w a n M L f) (hn : n ≤ 1048576) (hM : ∀ i, i < n → M i ≤ 1048576) (hL : ∀ i, i < n → ∀ j, j < M i → L i j ≤ 1048576) (_ : (Lit.int .i64 i).wf = true) (_ : (Lit.int .i64 k).wf = true) :
    Calls Try.prog 13 #[.agg #[.slice a n c], .int .i64 i, .int .i64 k] w (RowRes w (nRg (ringB n M L f && (labB n i && expB k) && okP n f i.toNat k.toNat) n) (pwZ n f i.toNat k.toNat) (cPow (ringB n M L f) (labB n i && expB k) (okP n f i.toNat k.toNat))) := by
  have HI := Lib.hid (fun u (hu : Below w.heap.size w u) => l03Is_f a n c M L f u (h.below hu (Nat.le_refl _)) hn hM hL)
  have HL := Lib.hid (fun u => l03Label_f a n c i u hn)
  have HK := Lib.hid (fun u => l01In_any k 0 40 u)
  rw [exp_in] at HK
  clear hM hL
  cases hr : ringB n M L f
  · rw [hr] at HI
    clear h hr HL HK
    go_enter Try.func13, Try.ntmps13
    go_wp2_with fail
    refine (HI.out _ (below_alloc _ _)).mono ?_
    rintro e w1 ⟨rfl, hb⟩
    have HB := Lib.hid ((below_alloc w (.cells #[.slice a n c] 29)).trans (hb.mono (by simp)))
    clear hb
    go_wp2_with fail
    go_ret2
    exact rowRes_none rfl rfl HB.out
  · obtain ⟨h0, h16, hf, hd, b, off, B, O, C, B2, O2, C2, rfl, hat⟩ := ring_open h hr
    rw [hr] at HI
    clear h hr hd
    cases hl : labB n i
    · rw [hl] at HL
      clear hat hf hl HK
      go_enter Try.func13, Try.ntmps13
      go_wp2_with fail
      refine (HI.out _ (below_alloc _ _)).mono ?_
      rintro e w1 ⟨rfl, hb⟩
      have HB := Lib.hid ((below_alloc w (.cells #[.slice (some ⟨b, off, none⟩) n c] 29)).trans (hb.mono (by simp)))
      have hsz : w.heap.size < w1.heap.size := by have := hb.size; simp at this; omega
      have e0 : w1.cell? ⟨w.heap.size, 0, none⟩ = some (.slice (some ⟨b, off, none⟩) n c) := by
        rw [hb.cell (p := ⟨w.heap.size, 0, none⟩) (by simp)]; exact cell_box _ _ _
      have E0 := Lib.hid e0
      clear hb
      go_wp2_with fail
      clear e0
      refine (HL.out _).mono ?_
      rintro e w2 ⟨rfl, hb⟩
      have HB2 := Lib.hid (HB.out.trans (hb.mono HB.out.size))
      clear hb
      go_wp2_with fail
      go_ret2
      exact rowRes_none rfl rfl HB2.out
    · rw [hl] at HL
      cases hke : expB k
      · rw [hke] at HK
        clear hat hf hl hke
        go_enter Try.func13, Try.ntmps13
        go_wp2_with fail
        refine (HI.out _ (below_alloc _ _)).mono ?_
        rintro e w1 ⟨rfl, hb⟩
        have HB := Lib.hid ((below_alloc w (.cells #[.slice (some ⟨b, off, none⟩) n c] 29)).trans (hb.mono (by simp)))
        have hsz : w.heap.size < w1.heap.size := by have := hb.size; simp at this; omega
        have e0 : w1.cell? ⟨w.heap.size, 0, none⟩ = some (.slice (some ⟨b, off, none⟩) n c) := by
          rw [hb.cell (p := ⟨w.heap.size, 0, none⟩) (by simp)]; exact cell_box _ _ _
        have E0 := Lib.hid e0
        clear hb
        go_wp2_with fail
        clear e0
        refine (HL.out _).mono ?_
        rintro e w2 ⟨rfl, hb⟩
        have HB2 := Lib.hid (HB.out.trans (hb.mono HB.out.size))
        clear hb
        go_wp2_with fail
        refine (HK.out _).mono ?_
        rintro e w3 ⟨rfl, rfl⟩
        go_wp2_with fail
        go_ret2
        exact rowRes_none rfl rfl HB2.out
      · rw [hke] at HK
        have hlab : 0 ≤ i ∧ i < n := of_decide_eq_true hl
        have hk : 0 ≤ k ∧ k ≤ 40 := of_decide_eq_true hke
        clear hl hke
        obtain ⟨i', rfl⟩ : ∃ i' : Nat, i = i' := ⟨i.toNat, by omega⟩
        obtain ⟨k', rfl⟩ : ∃ k' : Nat, k = k' := ⟨k.toNat, by omega⟩
        have hi : i' < n := by omega
        have hk4 : k' ≤ 40 := by omega
        clear hlab hk
        have HF := Lib.hid hf
        have HF0 := Lib.hid (fun i j k hi hj hk => (hf i j k hi hj hk).1)
        have HA := Lib.hid hat
        clear hat hf
        go_enter Try.func13, Try.ntmps13
        go_wp2_with fail
        refine (HI.out _ (below_alloc _ _)).mono ?_
        rintro e w1 ⟨rfl, hb⟩
        have HB := Lib.hid ((below_alloc w (.cells #[.slice (some ⟨b, off, none⟩) n c] 29)).trans (hb.mono (by simp)))
        have hsz : w.heap.size < w1.heap.size := by have := hb.size; simp at this; omega
        have e0 : w1.cell? ⟨w.heap.size, 0, none⟩ = some (.slice (some ⟨b, off, none⟩) n c) := by
          rw [hb.cell (p := ⟨w.heap.size, 0, none⟩) (by simp)]; exact cell_box _ _ _
        have E0 := Lib.hid e0
        clear hb
        go_wp2_with fail
        clear e0
        refine (HL.out _).mono ?_
        rintro e w2 ⟨rfl, hb⟩
        have HB2 := Lib.hid (HB.out.trans (hb.mono HB.out.size))
        have KW := Lib.hid (show w2.cell? ⟨w.heap.size, 0, none⟩ = some (.slice (some ⟨b, off, none⟩) n c) from by
          rw [hb.cell (p := ⟨w.heap.size, 0, none⟩) hsz]; exact E0.out)
        have HWs := Lib.hid (show w.heap.size < w2.heap.size by have := hb.size; omega)
        clear hb hsz
        go_wp2_with fail
        refine (HK.out _).mono ?_
        rintro e w3 ⟨rfl, rfl⟩
        go_wp2_with fail
        clear HI HL HK HB E0
        go_region_held3 (fun u => u.cell? ⟨w.heap.size, 0, none⟩ = some (.slice (some ⟨b, off, none⟩) n c)) (first | exact KB.out | exact KA.out | exact KW.out) (first | (have q9 := HC1.out; clear q9; go_at_call 43; refine (l03One_f _ n c i' _ hi (by omega)).mono ?_; rintro e w5 ⟨g2, rfl, hg2, hr2, hb2⟩; have HC2 := Lib.hid (HC1.out.trans (hb2.mono HC1.out.size)); have HR2 := Lib.hid hr2; have HR1b := Lib.hid (show RowI w5 2 g1 n (oneZ 0) from RowB.below HR1.out hb2 (RowB.lt HR1.out)); have KB := Lib.hid (show w5.cell? ⟨w.heap.size, 0, none⟩ = some (.slice (some ⟨b, off, none⟩) n c) from (HC2.out.cell (p := ⟨w.heap.size, 0, none⟩) HWs.out).trans KW.out); have HG2 := Lib.hid (show w2.heap.size ≤ g2 from Nat.le_trans HC1.out.size hg2); clear hg2 hr2 hb2) | (go_at_call 43; refine (l03One_f _ n c 0 _ h0 (by omega)).mono ?_; rintro e w4 ⟨g1, rfl, hg1, hr1, hb1⟩; have HC1 := Lib.hid (show Below w2.heap.size w2 w4 from ⟨hb1.os, hb1.tape, hb1.output, hb1.size, hb1.block⟩); have HR1 := Lib.hid hr1; have HG1 := Lib.hid (show w2.heap.size ≤ g1 from hg1); have KA := Lib.hid (show w4.cell? ⟨w.heap.size, 0, none⟩ = some (.slice (some ⟨b, off, none⟩) n c) from (HC1.out.cell (p := ⟨w.heap.size, 0, none⟩) HWs.out).trans KW.out); clear hg1 hr1 hb1))
        clear KA HC1
        go_wp2_with fail
        go_loopw [2, 8] (fun v x wr => ∃ (t s g : Nat), t + s = k' ∧ v = .int .i64 s ∧ x = .slice (some ⟨g, 0, none⟩) n n ∧ Below w2.heap.size w2 wr ∧ w2.heap.size ≤ g ∧ RowI wr 2 g n (pwZ n f i' t) ∧ RowI wr 2 g2 n (oneZ i') ∧ ∀ s, s < t → okV n (pwZ n f i' (s + 1)) = true) (fun v _ _ => (intOf v).toNat)
        case atStart => exact ⟨0, k', g1, by omega, rfl, rfl, HC2.out, HG1.out, HR1b.out, HR2.out, fun s hs => absurd hs (by omega)⟩
        case round =>
          obtain ⟨t, s, g, ht, rfl, rfl, hbl, hg, hrow, hlab, hall⟩ := hrel
          have HC := Lib.hid hbl
          have HR := Lib.hid hrow
          have HO := Lib.hid hlab
          have HD := Lib.hid hall
          have HG := Lib.hid hg
          have HT := Lib.hid (show Below w.heap.size w wr from HB2.out.trans (hbl.mono HB2.out.size))
          clear hbl hrow hlab hall hg
          by_cases hs : 0 < s
          · have e0 : wr.cell? ⟨w.heap.size, 0, none⟩ = some (.slice (some ⟨b, off, none⟩) n c) := (HC.out.cell (p := ⟨w.heap.size, 0, none⟩) HWs.out).trans KW.out
            have HX := Lib.hid (l03Times_f b off n c B O C B2 O2 C2 f (some ⟨g, 0, none⟩) (some ⟨g2, 0, none⟩) n n (pwZ n f i' t) (oneZ i') wr (HA.out.below HT.out) (RowI.rd HR.out) (RowI.rd HO.out) h16 h0 HF.out (pw_xy HF0.out HD.out))
            go_wp2_with fail
            clear e0
            refine HX.out.mono ?_
            rintro e w6 ⟨g4, rfl, hg4, hr4, hb4⟩
            have HC4 := Lib.hid (HC.out.trans (hb4.mono HC.out.size))
            have HT4 := Lib.hid (HT.out.trans (hb4.mono HT.out.size))
            have HR4 := Lib.hid (show RowI w6 2 g4 n (pwZ n f i' (t + 1)) from hr4)
            have HO4 := Lib.hid (show RowI w6 2 g2 n (oneZ i') from RowB.below HO.out hb4 (RowB.lt HO.out))
            have HG4 := Lib.hid (show w2.heap.size ≤ g4 from Nat.le_trans HC.out.size hg4)
            clear hg4 hr4 hb4 HX
            go_wp2_with fail
            go_loopw [10] (fun v wr => ∃ j : Nat, j ≤ n ∧ v = .int .i64 j ∧ wr = w6 ∧ ∀ q, q < j → pwZ n f i' (t + 1) q ≤ 1000000000) (fun v _ => n - (intOf v).toNat)
            case atStart => exact ⟨0, by omega, rfl, rfl, fun q hq => absurd hq (by omega)⟩
            case round =>
              obtain ⟨j, hj, rfl, rfl, hq⟩ := hrel
              have HQ := Lib.hid hq
              clear hq
              by_cases hjn : j < n
              · have e1 : wr.cell? ⟨g4, j, none⟩ = some (.int .i64 (pwZ n f i' (t + 1) j)) := by simpa using RowB.cell HR4.out hjn
                obtain ⟨pz, hpz⟩ : ∃ v, v = pwZ n f i' (t + 1) j := ⟨_, rfl⟩
                rw [← hpz] at e1
                have EP := Lib.hid hpz
                clear hpz
                by_cases hgt : 1000000000 < pz
                · have hd1 : decide (1000000000 < pz) = true := by simpa using hgt
                  have HN := Lib.hid (okP_no (show t < k' by omega) (okV_no hjn (show 1000000000 < pwZ n f i' (t + 1) j by rw [← EP.out]; exact hgt)))
                  clear hgt
                  go_wp2_with fail
                  go_ret2
                  rw [show okP n f ((i' : Int).toNat) ((k' : Int).toNat) = false by simpa using HN.out]
                  exact rowRes_none rfl rfl HT4.out
                · have hd1 : decide (1000000000 < pz) = false := by simpa using hgt
                  have HN := Lib.hid (show ∀ q, q < j + 1 → pwZ n f i' (t + 1) q ≤ 1000000000 from fun q hq => by
                    by_cases e : q = j
                    · rw [e, ← EP.out]; omega
                    · exact HQ.out q (by omega))
                  clear hgt
                  go_wp2_with fail
                  exact ⟨⟨j + 1, by omega, by go_num, trivial, HN.out⟩, by simp [intOf]; omega⟩
              · obtain rfl : j = n := by omega
                have HN := Lib.hid (show ∀ s, s < t + 1 → okV j (pwZ j f i' (s + 1)) = true from fun s hs => by
                  by_cases e : s = t
                  · rw [e]; exact okV_mk HQ.out
                  · exact HD.out s (by omega))
                obtain ⟨s', rfl⟩ : ∃ s', s = s' + 1 := ⟨s - 1, by omega⟩
                go_wp2_with fail
                exact ⟨⟨t + 1, s', g4, by omega, by go_num, rfl, HC4.out, HG4.out, HR4.out, HO4.out, HN.out⟩, by simp [intOf]⟩
          · obtain rfl : s = 0 := by omega
            obtain rfl : t = k' := by omega
            have HN := Lib.hid (okP_mk HD.out)
            have HGw := Lib.hid (show w.heap.size ≤ g from Nat.le_trans HB2.out.size HG.out)
            go_wp2_with fail
            go_ret2
            rw [show okP n f ((i' : Int).toNat) ((t : Int).toNat) = true by simpa using HN.out]
            exact ⟨some ⟨g, 0, none⟩, n, rfl, Or.inr ⟨g, rfl, HGw.out, HR.out⟩, HT.out⟩
end Go.Proofs.Ytfiilhoojoaflaa
