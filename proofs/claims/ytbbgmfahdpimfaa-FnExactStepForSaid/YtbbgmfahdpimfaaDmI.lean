/- StepFor of both. -/
import Derived.Test.YtbbgmfahdpimfaaDmH
namespace Go.Proofs.Ytbbgmfahdpimfaa
open Go.RowKit
set_option linter.unusedSimpArgs false
/-- whether the bounds of a step are near -/
def nearT (n : Nat) (f : Nat → Nat → Nat → Int) (i : Nat) (tp bt : Int) (t : Nat) : Bool :=
  nearB (bdN true n f i (wtZ n f t) 0) (bdN true n f i (wtZ n f t) 1) (bdN true n f i (wtZ n f t) 2) (bdN true n f i (wtZ n f t) 3) tp bt
/-- the least step from t on that is near, and a code -/
def stR (n : Nat) (f : Nat → Nat → Nat → Int) (i : Nat) (tp bt : Int) : Nat → Nat → Int × Int
  | 0, _ => (0, 4)
  | k + 1, t => if okT n f t = true then (if nearT n f i tp bt t = true then ((t : Int), 0) else stR n f i tp bt k (t + 1)) else (0, 3)
def stG (n : Nat) (i tp bt : Int) : Bool := labB n i && (inB 0 1000 tp && inB 1 1000 bt)
def stV (r g : Bool) (x : Int) : Int := if r && g then x else 0
def stC (r g : Bool) (x : Int) : Int := if r then (if g then x else 2) else 1
theorem bdN_ok {n : Nat} {f : Nat → Nat → Nat → Int} (R : Rng n f) {i : Nat} (hi : i < n) {t : Nat} (h : okT n f t = true) :
    (0 ≤ bdN true n f i (wtZ n f t) 0 ∧ bdN true n f i (wtZ n f t) 0 ≤ 100000000000) ∧ (1 ≤ bdN true n f i (wtZ n f t) 1 ∧ bdN true n f i (wtZ n f t) 1 ≤ 1000000) ∧
    (0 ≤ bdN true n f i (wtZ n f t) 2 ∧ bdN true n f i (wtZ n f t) 2 ≤ 100000000000) ∧ (1 ≤ bdN true n f i (wtZ n f t) 3 ∧ bdN true n f i (wtZ n f t) 3 ≤ 1000000) ∧
    bdN true n f i (wtZ n f t) 0 * bdN true n f i (wtZ n f t) 3 ≤ bdN true n f i (wtZ n f t) 2 * bdN true n f i (wtZ n f t) 1 := by
  have hw := wt_bd R.num (okT_t h)
  have hg := wt_ge R t
  obtain ⟨a, ha, ea⟩ := fm_some lessB (topZ n f i (wtZ n f t)) (wtZ n f t) R.h0 n (Nat.le_refl _)
  obtain ⟨b, hb, eb⟩ := fm_some greaterB (topZ n f i (wtZ n f t)) (wtZ n f t) R.h0 n (Nat.le_refl _)
  have hor := fm_order (T := topZ n f i (wtZ n f t)) R.h0 hg
  have t1 := top_bd R.h16 R.num hw hi ha
  have t2 := top_bd R.h16 R.num hw hi hb
  have e0 : bdN true n f i (wtZ n f t) 0 = (fmF lessB (topZ n f i (wtZ n f t)) (wtZ n f t) n).1 := rfl
  have e1 : bdN true n f i (wtZ n f t) 1 = (fmF lessB (topZ n f i (wtZ n f t)) (wtZ n f t) n).2 := rfl
  have e2 : bdN true n f i (wtZ n f t) 2 = (fmF greaterB (topZ n f i (wtZ n f t)) (wtZ n f t) n).1 := rfl
  have e3 : bdN true n f i (wtZ n f t) 3 = (fmF greaterB (topZ n f i (wtZ n f t)) (wtZ n f t) n).2 := rfl
  rw [e0, e1, e2, e3]
  refine ⟨?_, ?_, ?_, ?_, hor⟩
  · rw [ea]; exact t1
  · rw [ea]; exact ⟨hg a ha, (hw a ha).2⟩
  · rw [eb]; exact t2
  · rw [eb]; exact ⟨hg b hb, (hw b hb).2⟩
set_option maxHeartbeats 8000000 in
set_option maxRecDepth 100000 in
theorem implStep_f (a : Option Addr) (n c : Nat) (M : Nat → Nat) (L : Nat → Nat → Nat) (f : Nat → Nat → Nat → Int) (i tp bt : Int) (w : World) (h : RdT w a n M L f) (hn : n ≤ 1048576) (hM : ∀ i, i < n → M i ≤ 1048576) (hL : ∀ i, i < n → ∀ j, j < M i → L i j ≤ 1048576) (_ : (Lit.int .i64 i).wf = true) (_ : (Lit.int .i64 tp).wf = true) (_ : (Lit.int .i64 bt).wf = true) :
    Calls Try.prog 26 #[.agg #[.slice a n c], .int .i64 i, .int .i64 tp, .int .i64 bt] w (IntRes w (stV (ringB n M L f) (stG n i tp bt) (stR n f i.toNat tp bt 21 0).1) (stC (ringB n M L f) (stG n i tp bt) (stR n f i.toNat tp bt 21 0).2)) := by
  have HI := Lib.hid (fun u (hu : Below w.heap.size w u) => implIsRing_f a n c M L f u (h.below hu (Nat.le_refl _)) hn hM hL)
  have HLb := Lib.hid (fun a u => hasLabel_f a n c i u)
  clear hM hL
  cases hr : ringB n M L f
  · rw [hr] at HI
    clear h hr HLb
    go_enter Try.func26, Try.ntmps26
    go_wp2_with fail
    refine (HI.out _ (below_alloc _ _)).mono ?_
    rintro e w1 ⟨rfl, hb⟩
    have HB := Lib.hid ((below_alloc w (.cells #[.slice a n c] 29)).trans (hb.mono (by simp)))
    have hsz : w.heap.size < w1.heap.size := by have := hb.size; simp at this; omega
    have e0 : w1.cell? ⟨w.heap.size, 0, none⟩ = some (.slice a n c) := by
      rw [hb.cell (p := ⟨w.heap.size, 0, none⟩) (by simp)]; exact cell_box _ _ _
    have E0 := Lib.hid e0
    clear hb
    go_wp2_with fail
    go_ret2
    exact ⟨rfl, HB.out⟩
  · have HRg := Lib.hid (rng_of hr)
    obtain ⟨h0, h16, hf, hd, b, off, B, O, C, B2, O2, C2, rfl, hat⟩ := ring_open h hr
    rw [hr] at HI
    clear h hd hr
    cases hl : labB n i
    · rw [hl] at HLb
      have HG := Lib.hid (show stG n i tp bt = false by unfold stG; rw [hl]; rfl)
      rw [HG.out]
      clear hat hf hl
      go_enter Try.func26, Try.ntmps26
      go_wp2_with fail
      refine (HI.out _ (below_alloc _ _)).mono ?_
      rintro e w1 ⟨rfl, hb⟩
      have HB := Lib.hid ((below_alloc w (.cells #[.slice (some ⟨b, off, none⟩) n c] 29)).trans (hb.mono (by simp)))
      have hsz : w.heap.size < w1.heap.size := by have := hb.size; simp at this; omega
      have e0 : w1.cell? ⟨w.heap.size, 0, none⟩ = some (.slice (some ⟨b, off, none⟩) n c) := by
        rw [hb.cell (p := ⟨w.heap.size, 0, none⟩) (by simp)]; exact cell_box _ _ _
      have E0 := Lib.hid e0
      clear hb
      go_wp2_with fail
      clear e0
      refine (HLb.out _ _).mono ?_
      rintro e w2 ⟨rfl, hb2⟩
      have HB2 := Lib.hid (HB.out.trans (hb2.mono HB.out.size))
      clear hb2
      go_wp2_with fail
      go_ret2
      exact ⟨rfl, HB2.out⟩
    · rw [hl] at HLb
      by_cases ht1 : tp < 0
      · skip
        have dht1 : decide (tp < 0) = true := decide_eq_true ht1
        have HG := Lib.hid (show stG n i tp bt = false by
          unfold stG
          rw [inB_no (lo := 0) (hi := 1000) (n := tp) (by omega)]; simp)
        rw [HG.out]
        clear hat hf hl
        go_enter Try.func26, Try.ntmps26
        go_wp2_with fail
        refine (HI.out _ (below_alloc _ _)).mono ?_
        rintro e w1 ⟨rfl, hb⟩
        have HB := Lib.hid ((below_alloc w (.cells #[.slice (some ⟨b, off, none⟩) n c] 29)).trans (hb.mono (by simp)))
        have hsz : w.heap.size < w1.heap.size := by have := hb.size; simp at this; omega
        have e0 : w1.cell? ⟨w.heap.size, 0, none⟩ = some (.slice (some ⟨b, off, none⟩) n c) := by
          rw [hb.cell (p := ⟨w.heap.size, 0, none⟩) (by simp)]; exact cell_box _ _ _
        have E0 := Lib.hid e0
        clear hb
        go_wp2_with fail
        clear e0
        refine (HLb.out _ _).mono ?_
        rintro e w2 ⟨rfl, hb2⟩
        have HB2 := Lib.hid (HB.out.trans (hb2.mono HB.out.size))
        have K2 := Lib.hid (show w2.cell? ⟨w.heap.size, 0, none⟩ = some (.slice (some ⟨b, off, none⟩) n c) by
          rw [hb2.cell (p := ⟨w.heap.size, 0, none⟩) hsz]; exact E0.out)
        have HZ2 := Lib.hid (show w.heap.size < w2.heap.size from Nat.lt_of_lt_of_le hsz hb2.size)
        clear hb2 hsz
        go_wp2_with fail
        go_ret2
        exact ⟨rfl, HB2.out⟩
      · skip
        by_cases ht2 : 1000 < tp
        · skip
          have dht1 : decide (tp < 0) = false := decide_eq_false ht1
          have dht2 : decide (1000 < tp) = true := decide_eq_true ht2
          have HG := Lib.hid (show stG n i tp bt = false by
            unfold stG
            rw [inB_no (lo := 0) (hi := 1000) (n := tp) (by omega)]; simp)
          rw [HG.out]
          clear hat hf hl
          go_enter Try.func26, Try.ntmps26
          go_wp2_with fail
          refine (HI.out _ (below_alloc _ _)).mono ?_
          rintro e w1 ⟨rfl, hb⟩
          have HB := Lib.hid ((below_alloc w (.cells #[.slice (some ⟨b, off, none⟩) n c] 29)).trans (hb.mono (by simp)))
          have hsz : w.heap.size < w1.heap.size := by have := hb.size; simp at this; omega
          have e0 : w1.cell? ⟨w.heap.size, 0, none⟩ = some (.slice (some ⟨b, off, none⟩) n c) := by
            rw [hb.cell (p := ⟨w.heap.size, 0, none⟩) (by simp)]; exact cell_box _ _ _
          have E0 := Lib.hid e0
          clear hb
          go_wp2_with fail
          clear e0
          refine (HLb.out _ _).mono ?_
          rintro e w2 ⟨rfl, hb2⟩
          have HB2 := Lib.hid (HB.out.trans (hb2.mono HB.out.size))
          have K2 := Lib.hid (show w2.cell? ⟨w.heap.size, 0, none⟩ = some (.slice (some ⟨b, off, none⟩) n c) by
            rw [hb2.cell (p := ⟨w.heap.size, 0, none⟩) hsz]; exact E0.out)
          have HZ2 := Lib.hid (show w.heap.size < w2.heap.size from Nat.lt_of_lt_of_le hsz hb2.size)
          clear hb2 hsz
          go_wp2_with fail
          go_ret2
          exact ⟨rfl, HB2.out⟩
        · skip
          by_cases hb1 : bt < 1
          · skip
            have dht1 : decide (tp < 0) = false := decide_eq_false ht1
            have dht2 : decide (1000 < tp) = false := decide_eq_false ht2
            have dhb1 : decide (bt < 1) = true := decide_eq_true hb1
            have HG := Lib.hid (show stG n i tp bt = false by
              unfold stG
              rw [inB_no (lo := 1) (hi := 1000) (n := bt) (by omega)]; simp)
            rw [HG.out]
            clear hat hf hl
            go_enter Try.func26, Try.ntmps26
            go_wp2_with fail
            refine (HI.out _ (below_alloc _ _)).mono ?_
            rintro e w1 ⟨rfl, hb⟩
            have HB := Lib.hid ((below_alloc w (.cells #[.slice (some ⟨b, off, none⟩) n c] 29)).trans (hb.mono (by simp)))
            have hsz : w.heap.size < w1.heap.size := by have := hb.size; simp at this; omega
            have e0 : w1.cell? ⟨w.heap.size, 0, none⟩ = some (.slice (some ⟨b, off, none⟩) n c) := by
              rw [hb.cell (p := ⟨w.heap.size, 0, none⟩) (by simp)]; exact cell_box _ _ _
            have E0 := Lib.hid e0
            clear hb
            go_wp2_with fail
            clear e0
            refine (HLb.out _ _).mono ?_
            rintro e w2 ⟨rfl, hb2⟩
            have HB2 := Lib.hid (HB.out.trans (hb2.mono HB.out.size))
            have K2 := Lib.hid (show w2.cell? ⟨w.heap.size, 0, none⟩ = some (.slice (some ⟨b, off, none⟩) n c) by
              rw [hb2.cell (p := ⟨w.heap.size, 0, none⟩) hsz]; exact E0.out)
            have HZ2 := Lib.hid (show w.heap.size < w2.heap.size from Nat.lt_of_lt_of_le hsz hb2.size)
            clear hb2 hsz
            go_wp2_with fail
            go_ret2
            exact ⟨rfl, HB2.out⟩
          · skip
            by_cases hb2 : 1000 < bt
            · skip
              have dht1 : decide (tp < 0) = false := decide_eq_false ht1
              have dht2 : decide (1000 < tp) = false := decide_eq_false ht2
              have dhb1 : decide (bt < 1) = false := decide_eq_false hb1
              have dhb2 : decide (1000 < bt) = true := decide_eq_true hb2
              have HG := Lib.hid (show stG n i tp bt = false by
                unfold stG
                rw [inB_no (lo := 1) (hi := 1000) (n := bt) (by omega)]; simp)
              rw [HG.out]
              clear hat hf hl
              go_enter Try.func26, Try.ntmps26
              go_wp2_with fail
              refine (HI.out _ (below_alloc _ _)).mono ?_
              rintro e w1 ⟨rfl, hb⟩
              have HB := Lib.hid ((below_alloc w (.cells #[.slice (some ⟨b, off, none⟩) n c] 29)).trans (hb.mono (by simp)))
              have hsz : w.heap.size < w1.heap.size := by have := hb.size; simp at this; omega
              have e0 : w1.cell? ⟨w.heap.size, 0, none⟩ = some (.slice (some ⟨b, off, none⟩) n c) := by
                rw [hb.cell (p := ⟨w.heap.size, 0, none⟩) (by simp)]; exact cell_box _ _ _
              have E0 := Lib.hid e0
              clear hb
              go_wp2_with fail
              clear e0
              refine (HLb.out _ _).mono ?_
              rintro e w2 ⟨rfl, hb2⟩
              have HB2 := Lib.hid (HB.out.trans (hb2.mono HB.out.size))
              have K2 := Lib.hid (show w2.cell? ⟨w.heap.size, 0, none⟩ = some (.slice (some ⟨b, off, none⟩) n c) by
                rw [hb2.cell (p := ⟨w.heap.size, 0, none⟩) hsz]; exact E0.out)
              have HZ2 := Lib.hid (show w.heap.size < w2.heap.size from Nat.lt_of_lt_of_le hsz hb2.size)
              clear hb2 hsz
              go_wp2_with fail
              go_ret2
              exact ⟨rfl, HB2.out⟩
            · skip
              have dht1 : decide (tp < 0) = false := decide_eq_false ht1
              have dht2 : decide (1000 < tp) = false := decide_eq_false ht2
              have dhb1 : decide (bt < 1) = false := decide_eq_false hb1
              have dhb2 : decide (1000 < bt) = false := decide_eq_false hb2
              have hT : inB 0 1000 tp = true := inB_mk (by omega) (by omega)
              have hB : inB 1 1000 bt = true := inB_mk (by omega) (by omega)
              have q1 := inB_t hT
              have q2 := inB_t hB
              have HG := Lib.hid (show stG n i tp bt = true by unfold stG; rw [hl, hT, hB]; rfl)
              have hlab : 0 ≤ i ∧ i < n := of_decide_eq_true hl
              obtain ⟨i', rfl⟩ : ∃ i' : Nat, i = i' := ⟨i.toNat, by omega⟩
              have hi' : i' < n := by omega
              rw [HG.out]
              simp only [Int.toNat_natCast]
              have HA := Lib.hid (fun t u (ht : t ≤ 20) (hu : Below w.heap.size w u) => weights_f b off n c B O C B2 O2 C2 f t u (hat.below hu) h16 h0 hf (by omega))
              have HBd := Lib.hid (fun t g cg u (hu : Below w.heap.size w u) (hok : okT n f t = true) (hr : RowI u 2 g n (wtZ n f t)) => bounds_f b off n c B O C B2 O2 C2 f i' (some ⟨g, 0, none⟩) cg (wtZ n f t) u (hat.below hu) (RowI.rd hr) h16 h0 hf (wt_bd hf (okT_t hok)) hi')
              have HQ1 := Lib.hid q1
              have HQ2 := Lib.hid q2
              have HF := Lib.hid hf
              obtain ⟨res, hres⟩ : ∃ r, r = stR n f i' tp bt 21 0 := ⟨_, rfl⟩
              rw [← hres]
              have HRes := Lib.hid hres
              clear hat hf hl hT hB q1 q2 hlab hres
              go_enter Try.func26, Try.ntmps26
              go_wp2_with fail
              refine (HI.out _ (below_alloc _ _)).mono ?_
              rintro e w1 ⟨rfl, hb⟩
              have HB := Lib.hid ((below_alloc w (.cells #[.slice (some ⟨b, off, none⟩) n c] 29)).trans (hb.mono (by simp)))
              have hsz : w.heap.size < w1.heap.size := by have := hb.size; simp at this; omega
              have e0 : w1.cell? ⟨w.heap.size, 0, none⟩ = some (.slice (some ⟨b, off, none⟩) n c) := by
                rw [hb.cell (p := ⟨w.heap.size, 0, none⟩) (by simp)]; exact cell_box _ _ _
              have E0 := Lib.hid e0
              clear hb
              go_wp2_with fail
              clear e0
              refine (HLb.out _ _).mono ?_
              rintro e w2 ⟨rfl, hb2⟩
              have HB2 := Lib.hid (HB.out.trans (hb2.mono HB.out.size))
              have K2 := Lib.hid (show w2.cell? ⟨w.heap.size, 0, none⟩ = some (.slice (some ⟨b, off, none⟩) n c) by
                rw [hb2.cell (p := ⟨w.heap.size, 0, none⟩) hsz]; exact E0.out)
              have HZ2 := Lib.hid (show w.heap.size < w2.heap.size from Nat.lt_of_lt_of_le hsz hb2.size)
              clear hb2 hsz
              go_wp2_with fail
              clear dht1 dht2 dhb1 dhb2
              go_loopw [36] (fun x wr => ∃ t : Nat, t ≤ 21 ∧ x = .int .i64 t ∧ Below w2.heap.size w2 wr ∧ res = stR n f i' tp bt (21 - t) t) (fun x _ => 21 - (intOf x).toNat)
              case atStart => exact ⟨0, by omega, rfl, Below.refl _ _, HRes.out⟩
              case round =>
                obtain ⟨t, ht, rfl, hbl, hrs⟩ := hrel
                have HBw := Lib.hid hbl
                have HRs := Lib.hid hrs
                have HT := Lib.hid (show Below w.heap.size w wr from HB2.out.trans (hbl.mono HB2.out.size))
                clear hbl hrs
                by_cases ht21 : t < 21
                · have hdt : decide ((t : Int) < 21) = true := by simp; omega
                  have e0 : wr.cell? ⟨w.heap.size, 0, none⟩ = some (.slice (some ⟨b, off, none⟩) n c) := (HBw.out.cell (p := ⟨w.heap.size, 0, none⟩) HZ2.out).trans K2.out
                  have HX := Lib.hid (HA.out t wr (by omega) HT.out)
                  obtain ⟨m, hm⟩ : ∃ m, 21 - t = m + 1 := ⟨20 - t, by omega⟩
                  have hstep : res = if okT n f t = true then (if nearT n f i' tp bt t = true then ((t : Int), 0) else stR n f i' tp bt m (t + 1)) else (0, 3) := by rw [HRs.out, hm]; rfl
                  have HSt := Lib.hid hstep
                  clear hstep
                  go_wp2_with fail
                  refine HX.out.mono ?_
                  clear e0
                  intro e w4 hres4
                  rcases hres4 with ⟨hok, g, cg, rfl, hg, hrow, hb4⟩ | ⟨hok, rfl, hb4⟩
                  · have HB4 := Lib.hid (HBw.out.trans (hb4.mono HBw.out.size))
                    have HT4 := Lib.hid (HT.out.trans (hb4.mono HT.out.size))
                    have HX4 := Lib.hid (HBd.out t g cg w4 HT4.out hok hrow)
                    have hok' := bdN_ok HRg.out hi' hok
                    have HOk := Lib.hid hok'
                    have HO := Lib.hid hok
                    have e0 : w4.cell? ⟨w.heap.size, 0, none⟩ = some (.slice (some ⟨b, off, none⟩) n c) := (HB4.out.cell (p := ⟨w.heap.size, 0, none⟩) HZ2.out).trans K2.out
                    clear hg hrow hb4 hok hok'
                    go_wp2_with fail
                    clear e0
                    refine HX4.out.mono ?_
                    rintro e w5 ⟨rfl, hb5⟩
                    have HB5 := Lib.hid (HB4.out.trans (hb5.mono HB4.out.size))
                    have HT5 := Lib.hid (HT4.out.trans (hb5.mono HT4.out.size))
                    clear hb5
                    have HNr := Lib.hid (show nearT n f i' tp bt t = nearB (bdN true n f i' (wtZ n f t) 0) (bdN true n f i' (wtZ n f t) 1) (bdN true n f i' (wtZ n f t) 2) (bdN true n f i' (wtZ n f t) 3) tp bt from rfl)
                    rw [bdV_bdN]
                    obtain ⟨x1, hx1⟩ : ∃ x, x = bdN true n f i' (wtZ n f t) 0 := ⟨_, rfl⟩
                    obtain ⟨x2, hx2⟩ : ∃ x, x = bdN true n f i' (wtZ n f t) 1 := ⟨_, rfl⟩
                    obtain ⟨x3, hx3⟩ : ∃ x, x = bdN true n f i' (wtZ n f t) 2 := ⟨_, rfl⟩
                    obtain ⟨x4, hx4⟩ : ∃ x, x = bdN true n f i' (wtZ n f t) 3 := ⟨_, rfl⟩
                    rw [← hx1, ← hx2, ← hx3, ← hx4] at HOk HNr ⊢
                    clear hx1 hx2 hx3 hx4
                    have HW := Lib.hid (fun u => areWithin_f x1 x2 x3 x4 tp bt u HOk.out.1 HOk.out.2.1 HOk.out.2.2.1 HOk.out.2.2.2.1 HQ1.out HQ2.out)
                    go_wp2_with fail
                    refine (HW.out _).mono ?_
                    rintro e w6 ⟨rfl, hb6⟩
                    have HB6 := Lib.hid (HB5.out.trans (hb6.mono HB5.out.size))
                    have HT6 := Lib.hid (HT5.out.trans (hb6.mono HT5.out.size))
                    clear hb6
                    cases hn6 : nearB x1 x2 x3 x4 tp bt
                    · have HN := Lib.hid (show res = stR n f i' tp bt (21 - (t + 1)) (t + 1) by
                        rw [HSt.out, if_pos HO.out, if_neg (by rw [HNr.out, hn6]; decide), show 21 - (t + 1) = m by omega])
                      clear hn6
                      go_wp2_with fail
                      exact ⟨⟨t + 1, by omega, by go_num, HB6.out, HN.out⟩, by simp [intOf]; omega⟩
                    · have HN := Lib.hid (show res = ((t : Int), 0) by
                        rw [HSt.out, if_pos HO.out, if_pos (by rw [HNr.out, hn6])])
                      clear hn6
                      go_wp2_with fail
                      go_ret2
                      rw [HN.out]
                      exact ⟨rfl, HT6.out⟩
                  · have HT4 := Lib.hid (HT.out.trans (hb4.mono HT.out.size))
                    have HN := Lib.hid (show res = (0, 3) by rw [HSt.out, if_neg (by rw [hok]; decide)])
                    clear hb4 hok
                    go_wp2_with fail
                    go_ret2
                    rw [HN.out]
                    exact ⟨rfl, HT4.out⟩
                · obtain rfl : t = 21 := by omega
                  have HN := Lib.hid (show res = (0, 4) by rw [HRs.out]; rfl)
                  go_wp2_with fail
                  go_ret2
                  rw [HN.out]
                  exact ⟨rfl, HT.out⟩
set_option maxHeartbeats 8000000 in
set_option maxRecDepth 100000 in
theorem specStep_f (a : Option Addr) (n c : Nat) (M : Nat → Nat) (L : Nat → Nat → Nat) (f : Nat → Nat → Nat → Int) (i tp bt : Int) (w : World) (h : RdT w a n M L f) (hn : n ≤ 1048576) (hM : ∀ i, i < n → M i ≤ 1048576) (hL : ∀ i, i < n → ∀ j, j < M i → L i j ≤ 1048576) (_ : (Lit.int .i64 i).wf = true) (_ : (Lit.int .i64 tp).wf = true) (_ : (Lit.int .i64 bt).wf = true) :
    Calls Try.prog 25 #[.agg #[.slice a n c], .int .i64 i, .int .i64 tp, .int .i64 bt] w (IntRes w (stV (ringB n M L f) (stG n i tp bt) (stR n f i.toNat tp bt 21 0).1) (stC (ringB n M L f) (stG n i tp bt) (stR n f i.toNat tp bt 21 0).2)) := by
  have HI := Lib.hid (fun u (hu : Below w.heap.size w u) => l03Is_f a n c M L f u (h.below hu (Nat.le_refl _)) hn hM hL)
  have HLb := Lib.hid (fun a u => l03Label_f a n c i u hn)
  have HT1 := Lib.hid (fun u => l01In_any tp 0 1000 u)
  have HT2 := Lib.hid (fun u => l01In_any bt 1 1000 u)
  clear hM hL
  cases hr : ringB n M L f
  · rw [hr] at HI
    clear h hr HLb
    go_enter Try.func25, Try.ntmps25
    go_wp2_with fail
    refine (HI.out _ (below_alloc _ _)).mono ?_
    rintro e w1 ⟨rfl, hb⟩
    have HB := Lib.hid ((below_alloc w (.cells #[.slice a n c] 29)).trans (hb.mono (by simp)))
    have hsz : w.heap.size < w1.heap.size := by have := hb.size; simp at this; omega
    have e0 : w1.cell? ⟨w.heap.size, 0, none⟩ = some (.slice a n c) := by
      rw [hb.cell (p := ⟨w.heap.size, 0, none⟩) (by simp)]; exact cell_box _ _ _
    have E0 := Lib.hid e0
    clear hb
    go_wp2_with fail
    go_ret2
    exact ⟨rfl, HB.out⟩
  · have HRg := Lib.hid (rng_of hr)
    obtain ⟨h0, h16, hf, hd, b, off, B, O, C, B2, O2, C2, rfl, hat⟩ := ring_open h hr
    rw [hr] at HI
    clear h hd hr
    cases hl : labB n i
    · rw [hl] at HLb
      have HG := Lib.hid (show stG n i tp bt = false by unfold stG; rw [hl]; rfl)
      rw [HG.out]
      clear hat hf hl
      go_enter Try.func25, Try.ntmps25
      go_wp2_with fail
      refine (HI.out _ (below_alloc _ _)).mono ?_
      rintro e w1 ⟨rfl, hb⟩
      have HB := Lib.hid ((below_alloc w (.cells #[.slice (some ⟨b, off, none⟩) n c] 29)).trans (hb.mono (by simp)))
      have hsz : w.heap.size < w1.heap.size := by have := hb.size; simp at this; omega
      have e0 : w1.cell? ⟨w.heap.size, 0, none⟩ = some (.slice (some ⟨b, off, none⟩) n c) := by
        rw [hb.cell (p := ⟨w.heap.size, 0, none⟩) (by simp)]; exact cell_box _ _ _
      have E0 := Lib.hid e0
      clear hb
      go_wp2_with fail
      clear e0
      refine (HLb.out _ _).mono ?_
      rintro e w2 ⟨rfl, hb2⟩
      have HB2 := Lib.hid (HB.out.trans (hb2.mono HB.out.size))
      clear hb2
      go_wp2_with fail
      go_ret2
      exact ⟨rfl, HB2.out⟩
    · rw [hl] at HLb
      cases hT : inB 0 1000 tp
      · skip
        have HG := Lib.hid (show stG n i tp bt = false by unfold stG; rw [hT]; simp)
        rw [HG.out]
        rw [hT] at HT1
        clear hat hf hl
        go_enter Try.func25, Try.ntmps25
        go_wp2_with fail
        refine (HI.out _ (below_alloc _ _)).mono ?_
        rintro e w1 ⟨rfl, hb⟩
        have HB := Lib.hid ((below_alloc w (.cells #[.slice (some ⟨b, off, none⟩) n c] 29)).trans (hb.mono (by simp)))
        have hsz : w.heap.size < w1.heap.size := by have := hb.size; simp at this; omega
        have e0 : w1.cell? ⟨w.heap.size, 0, none⟩ = some (.slice (some ⟨b, off, none⟩) n c) := by
          rw [hb.cell (p := ⟨w.heap.size, 0, none⟩) (by simp)]; exact cell_box _ _ _
        have E0 := Lib.hid e0
        clear hb
        go_wp2_with fail
        clear e0
        refine (HLb.out _ _).mono ?_
        rintro e w2 ⟨rfl, hb2⟩
        have HB2 := Lib.hid (HB.out.trans (hb2.mono HB.out.size))
        have K2 := Lib.hid (show w2.cell? ⟨w.heap.size, 0, none⟩ = some (.slice (some ⟨b, off, none⟩) n c) by
          rw [hb2.cell (p := ⟨w.heap.size, 0, none⟩) hsz]; exact E0.out)
        have HZ2 := Lib.hid (show w.heap.size < w2.heap.size from Nat.lt_of_lt_of_le hsz hb2.size)
        clear hb2 hsz
        go_wp2_with fail
        refine (HT1.out _).mono ?_
        rintro e w3 ⟨rfl, rfl⟩
        go_wp2_with fail
        go_ret2
        exact ⟨rfl, HB2.out⟩
      · skip
        cases hB : inB 1 1000 bt
        · skip
          have HG := Lib.hid (show stG n i tp bt = false by unfold stG; rw [hB]; simp)
          rw [HG.out]
          rw [hT] at HT1
          rw [hB] at HT2
          clear hat hf hl
          go_enter Try.func25, Try.ntmps25
          go_wp2_with fail
          refine (HI.out _ (below_alloc _ _)).mono ?_
          rintro e w1 ⟨rfl, hb⟩
          have HB := Lib.hid ((below_alloc w (.cells #[.slice (some ⟨b, off, none⟩) n c] 29)).trans (hb.mono (by simp)))
          have hsz : w.heap.size < w1.heap.size := by have := hb.size; simp at this; omega
          have e0 : w1.cell? ⟨w.heap.size, 0, none⟩ = some (.slice (some ⟨b, off, none⟩) n c) := by
            rw [hb.cell (p := ⟨w.heap.size, 0, none⟩) (by simp)]; exact cell_box _ _ _
          have E0 := Lib.hid e0
          clear hb
          go_wp2_with fail
          clear e0
          refine (HLb.out _ _).mono ?_
          rintro e w2 ⟨rfl, hb2⟩
          have HB2 := Lib.hid (HB.out.trans (hb2.mono HB.out.size))
          have K2 := Lib.hid (show w2.cell? ⟨w.heap.size, 0, none⟩ = some (.slice (some ⟨b, off, none⟩) n c) by
            rw [hb2.cell (p := ⟨w.heap.size, 0, none⟩) hsz]; exact E0.out)
          have HZ2 := Lib.hid (show w.heap.size < w2.heap.size from Nat.lt_of_lt_of_le hsz hb2.size)
          clear hb2 hsz
          go_wp2_with fail
          refine (HT1.out _).mono ?_
          rintro e w3 ⟨rfl, rfl⟩
          go_wp2_with fail
          refine (HT2.out _).mono ?_
          rintro e w3 ⟨rfl, rfl⟩
          go_wp2_with fail
          go_ret2
          exact ⟨rfl, HB2.out⟩
        · skip
          rw [hT] at HT1
          rw [hB] at HT2
          have q1 := inB_t hT
          have q2 := inB_t hB
          have HG := Lib.hid (show stG n i tp bt = true by unfold stG; rw [hl, hT, hB]; rfl)
          have hlab : 0 ≤ i ∧ i < n := of_decide_eq_true hl
          obtain ⟨i', rfl⟩ : ∃ i' : Nat, i = i' := ⟨i.toNat, by omega⟩
          have hi' : i' < n := by omega
          rw [HG.out]
          simp only [Int.toNat_natCast]
          have HA := Lib.hid (fun t u (ht : t ≤ 20) (hu : Below w.heap.size w u) => l04Weights_f b off n c B O C B2 O2 C2 f t u (hat.below hu) h16 h0 hf (by omega))
          have HBd := Lib.hid (fun t g cg u (hu : Below w.heap.size w u) (hok : okT n f t = true) (hr : RowI u 2 g n (wtZ n f t)) => l04Bounds_f b off n c B O C B2 O2 C2 f i' (some ⟨g, 0, none⟩) cg (wtZ n f t) u (hat.below hu) (RowI.rd hr) h16 h0 hf (wt_bd hf (okT_t hok)) hi')
          have HQ1 := Lib.hid q1
          have HQ2 := Lib.hid q2
          have HF := Lib.hid hf
          obtain ⟨res, hres⟩ : ∃ r, r = stR n f i' tp bt 21 0 := ⟨_, rfl⟩
          rw [← hres]
          have HRes := Lib.hid hres
          clear hat hf hl hT hB q1 q2 hlab hres
          go_enter Try.func25, Try.ntmps25
          go_wp2_with fail
          refine (HI.out _ (below_alloc _ _)).mono ?_
          rintro e w1 ⟨rfl, hb⟩
          have HB := Lib.hid ((below_alloc w (.cells #[.slice (some ⟨b, off, none⟩) n c] 29)).trans (hb.mono (by simp)))
          have hsz : w.heap.size < w1.heap.size := by have := hb.size; simp at this; omega
          have e0 : w1.cell? ⟨w.heap.size, 0, none⟩ = some (.slice (some ⟨b, off, none⟩) n c) := by
            rw [hb.cell (p := ⟨w.heap.size, 0, none⟩) (by simp)]; exact cell_box _ _ _
          have E0 := Lib.hid e0
          clear hb
          go_wp2_with fail
          clear e0
          refine (HLb.out _ _).mono ?_
          rintro e w2 ⟨rfl, hb2⟩
          have HB2 := Lib.hid (HB.out.trans (hb2.mono HB.out.size))
          have K2 := Lib.hid (show w2.cell? ⟨w.heap.size, 0, none⟩ = some (.slice (some ⟨b, off, none⟩) n c) by
            rw [hb2.cell (p := ⟨w.heap.size, 0, none⟩) hsz]; exact E0.out)
          have HZ2 := Lib.hid (show w.heap.size < w2.heap.size from Nat.lt_of_lt_of_le hsz hb2.size)
          clear hb2 hsz
          go_wp2_with fail
          refine (HT1.out _).mono ?_
          rintro e w3 ⟨rfl, rfl⟩
          go_wp2_with fail
          refine (HT2.out _).mono ?_
          rintro e w3 ⟨rfl, rfl⟩
          go_wp2_with fail
          go_loopw [10] (fun x wr => ∃ t : Nat, t ≤ 21 ∧ x = .int .i64 t ∧ Below w2.heap.size w2 wr ∧ res = stR n f i' tp bt (21 - t) t) (fun x _ => 21 - (intOf x).toNat)
          case atStart => exact ⟨0, by omega, rfl, Below.refl _ _, HRes.out⟩
          case round =>
            obtain ⟨t, ht, rfl, hbl, hrs⟩ := hrel
            have HBw := Lib.hid hbl
            have HRs := Lib.hid hrs
            have HT := Lib.hid (show Below w.heap.size w wr from HB2.out.trans (hbl.mono HB2.out.size))
            clear hbl hrs
            by_cases ht21 : t < 21
            · have hdt : decide ((t : Int) ≤ 20) = true := by simp; omega
              have e0 : wr.cell? ⟨w.heap.size, 0, none⟩ = some (.slice (some ⟨b, off, none⟩) n c) := (HBw.out.cell (p := ⟨w.heap.size, 0, none⟩) HZ2.out).trans K2.out
              have HX := Lib.hid (HA.out t wr (by omega) HT.out)
              obtain ⟨m, hm⟩ : ∃ m, 21 - t = m + 1 := ⟨20 - t, by omega⟩
              have hstep : res = if okT n f t = true then (if nearT n f i' tp bt t = true then ((t : Int), 0) else stR n f i' tp bt m (t + 1)) else (0, 3) := by rw [HRs.out, hm]; rfl
              have HSt := Lib.hid hstep
              clear hstep
              go_wp2_with fail
              refine HX.out.mono ?_
              clear e0
              intro e w4 hres4
              rcases hres4 with ⟨hok, g, cg, rfl, hg, hrow, hb4⟩ | ⟨hok, rfl, hb4⟩
              · have HB4 := Lib.hid (HBw.out.trans (hb4.mono HBw.out.size))
                have HT4 := Lib.hid (HT.out.trans (hb4.mono HT.out.size))
                have HX4 := Lib.hid (HBd.out t g cg w4 HT4.out hok hrow)
                have hok' := bdN_ok HRg.out hi' hok
                have HOk := Lib.hid hok'
                have HO := Lib.hid hok
                have e0 : w4.cell? ⟨w.heap.size, 0, none⟩ = some (.slice (some ⟨b, off, none⟩) n c) := (HB4.out.cell (p := ⟨w.heap.size, 0, none⟩) HZ2.out).trans K2.out
                clear hg hrow hb4 hok hok'
                go_wp2_with fail
                clear e0
                refine HX4.out.mono ?_
                rintro e w5 ⟨rfl, hb5⟩
                have HB5 := Lib.hid (HB4.out.trans (hb5.mono HB4.out.size))
                have HT5 := Lib.hid (HT4.out.trans (hb5.mono HT4.out.size))
                clear hb5
                have HNr := Lib.hid (show nearT n f i' tp bt t = nearB (bdN true n f i' (wtZ n f t) 0) (bdN true n f i' (wtZ n f t) 1) (bdN true n f i' (wtZ n f t) 2) (bdN true n f i' (wtZ n f t) 3) tp bt from rfl)
                rw [bdV_bdN]
                obtain ⟨x1, hx1⟩ : ∃ x, x = bdN true n f i' (wtZ n f t) 0 := ⟨_, rfl⟩
                obtain ⟨x2, hx2⟩ : ∃ x, x = bdN true n f i' (wtZ n f t) 1 := ⟨_, rfl⟩
                obtain ⟨x3, hx3⟩ : ∃ x, x = bdN true n f i' (wtZ n f t) 2 := ⟨_, rfl⟩
                obtain ⟨x4, hx4⟩ : ∃ x, x = bdN true n f i' (wtZ n f t) 3 := ⟨_, rfl⟩
                rw [← hx1, ← hx2, ← hx3, ← hx4] at HOk HNr ⊢
                clear hx1 hx2 hx3 hx4
                have HW := Lib.hid (fun u => l04Near_f x1 x2 x3 x4 tp bt u HOk.out.1 HOk.out.2.1 HOk.out.2.2.1 HOk.out.2.2.2.1 HQ1.out HQ2.out HOk.out.2.2.2.2)
                go_wp2_with fail
                refine (HW.out _).mono ?_
                rintro e w6 ⟨rfl, hb6⟩
                have HB6 := Lib.hid (HB5.out.trans (hb6.mono HB5.out.size))
                have HT6 := Lib.hid (HT5.out.trans (hb6.mono HT5.out.size))
                clear hb6
                cases hn6 : nearB x1 x2 x3 x4 tp bt
                · have HN := Lib.hid (show res = stR n f i' tp bt (21 - (t + 1)) (t + 1) by
                    rw [HSt.out, if_pos HO.out, if_neg (by rw [HNr.out, hn6]; decide), show 21 - (t + 1) = m by omega])
                  clear hn6
                  go_wp2_with fail
                  exact ⟨⟨t + 1, by omega, by go_num, HB6.out, HN.out⟩, by simp [intOf]; omega⟩
                · have HN := Lib.hid (show res = ((t : Int), 0) by
                    rw [HSt.out, if_pos HO.out, if_pos (by rw [HNr.out, hn6])])
                  clear hn6
                  go_wp2_with fail
                  go_ret2
                  rw [HN.out]
                  exact ⟨rfl, HT6.out⟩
              · have HT4 := Lib.hid (HT.out.trans (hb4.mono HT.out.size))
                have HN := Lib.hid (show res = (0, 3) by rw [HSt.out, if_neg (by rw [hok]; decide)])
                clear hb4 hok
                go_wp2_with fail
                go_ret2
                rw [HN.out]
                exact ⟨rfl, HT4.out⟩
            · obtain rfl : t = 21 := by omega
              have HN := Lib.hid (show res = (0, 4) by rw [HRs.out]; rfl)
              go_wp2_with fail
              go_ret2
              rw [HN.out]
              exact ⟨rfl, HT.out⟩
end Go.Proofs.Ytbbgmfahdpimfaa
