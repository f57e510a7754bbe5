/- Invertible labels: of both. -/
import Derived.Test.YtpfodikmidgpmaaDmE
import Derived.Test.YtpfodikmidgpmaaRgJ
import Derived.Deep.RegionHeld3
namespace Go.Proofs.Ytpfodikmidgpmaa
open Go.RowKit
set_option linter.unusedSimpArgs false
/-- the product with the dual is the label 0 -/
def invB (n : Nat) (f : Nat → Nat → Nat → Int) (i : Nat) : Bool := sameB n (f i (dn n f i)) (oneZ 0)
theorem inv_of_rs {n : Nat} {f : Nat → Nat → Nat → Int} (R : Rng n f) {i : Nat} (hi : i < n) (h : rsZ n f i (dn n f i) = 1) : ∀ k, k < n → f i (dn n f i) k = oneZ 0 k := by
  have hd := R.dlt i hi
  have h1 := R.d1 i hi
  have hs : sumZ (fun k => f i (dn n f i) k - oneZ 0 k) n = 0 := by
    have e1 : sumZ (fun k => oneZ 0 k) n = 1 := by rw [sumZ_only (i := 0) R.h0 (fun k hk hne => by unfold oneZ; rw [if_neg hne])]; rfl
    have e2 := sumZ_add (fun k => f i (dn n f i) k - oneZ 0 k) (fun k => oneZ 0 k) n
    rw [e1, sumZ_congr (h := fun k => f i (dn n f i) k) (fun k _ => by omega)] at e2
    unfold rsZ at h
    omega
  intro k hk
  have hn : ∀ k, k < n → 0 ≤ f i (dn n f i) k - oneZ 0 k := fun k hk => by
    unfold oneZ
    split
    · rename_i e; subst e; omega
    · have := (R.num i (dn n f i) k hi hd hk).1; omega
  have := sumZ_term hn hk
  have := hn k hk
  simp only [hs] at *
  omega
theorem rs_of_inv {n : Nat} {f : Nat → Nat → Nat → Int} (R : Rng n f) {i : Nat} (hi : i < n) (h : ∀ k, k < n → f i (dn n f i) k = oneZ 0 k) : ∀ j, j < n → rsZ n f (dn n f i) j = 1 := by
  intro j hj
  have hd := R.dlt i hi
  have hp := rs_pos R hd hj
  -- the sum over m of N(i*, j, m) times the labels of the product of i and m is 1
  have h1 : ∀ l, l < n → sumZ (fun m => f (dn n f i) j m * f i m l) n = if j = l then 1 else 0 := fun l hl => by
    have a := R.assoc i (dn n f i) j l hi hd hj hl
    unfold s1 s2 at a
    rw [← a, sumZ_only (i := 0) R.h0 (fun m hm hne => by rw [h m hm]; unfold oneZ; rw [if_neg hne]; simp), h 0 R.h0, R.unitl j l hj hl]
    unfold oneZ; simp
  have h2 : sumZ (fun m => f (dn n f i) j m * rsZ n f i m) n = 1 := by
    have e : sumZ (fun m => f (dn n f i) j m * rsZ n f i m) n = sumZ (fun l => sumZ (fun m => f (dn n f i) j m * f i m l) n) n := by
      rw [sumZ_swap]
      exact sumZ_congr fun m _ => by unfold rsZ; rw [sumZ_mul]
    rw [e, sumZ_congr (h := fun l => if j = l then 1 else 0) h1, sumZ_only (i := j) hj (fun k hk hne => if_neg (Ne.symm hne)), if_pos rfl]
  have h3 : rsZ n f (dn n f i) j ≤ sumZ (fun m => f (dn n f i) j m * rsZ n f i m) n := by
    unfold rsZ
    refine sumZ_mono fun m hm => ?_
    have a := (R.num (dn n f i) j m hd hj hm).1
    have b := rs_pos R hi hm
    have : f (dn n f i) j m * 1 ≤ f (dn n f i) j m * rsZ n f i m := Int.mul_le_mul_of_nonneg_left b a
    unfold rsZ at this
    omega
  omega
theorem inv_iff {n : Nat} {f : Nat → Nat → Nat → Int} (R : Rng n f) {i : Nat} (hi : i < n) : invB n f i = true ↔ ∀ j, j < n → rsZ n f i j = 1 := by
  constructor
  · intro h
    have h1 := rs_of_inv R hi (sameB_t h)
    have hd := R.dlt i hi
    have h2 := inv_of_rs R hd (h1 _ (R.dlt _ hd))
    have h3 := rs_of_inv R hd h2
    rw [R.dd i hi] at h3
    exact h3
  · intro h
    exact sameB_mk (inv_of_rs R hi (h _ (R.dlt i hi)))
theorem fm_ones_l (T : Nat → Int) (j : Nat) : (fmF lessB T (fun _ => 1) j).2 = 1 ∧ ∀ k, k < j → (fmF lessB T (fun _ => 1) j).1 ≤ T k := by
  induction j with
  | zero => exact ⟨rfl, fun k hk => absurd hk (by omega)⟩
  | succ j ih =>
    obtain ⟨i1, i2⟩ := ih
    simp only [fmF, i1]
    split
    · rename_i hc
      have hc' : T j * 1 < (fmF lessB T (fun _ => 1) j).1 * 1 := of_decide_eq_true hc
      refine ⟨rfl, fun k hk => ?_⟩
      by_cases e : k = j
      · subst e; exact Int.le_refl _
      · have := i2 k (by omega)
        show T j ≤ T k
        omega
    · rename_i hc
      have hc' : ¬ T j * 1 < (fmF lessB T (fun _ => 1) j).1 * 1 := fun h => hc (decide_eq_true h)
      refine ⟨i1, fun k hk => ?_⟩
      by_cases e : k = j
      · subst e; omega
      · exact i2 k (by omega)
theorem fm_ones_g (T : Nat → Int) (j : Nat) : (fmF greaterB T (fun _ => 1) j).2 = 1 ∧ ∀ k, k < j → T k ≤ (fmF greaterB T (fun _ => 1) j).1 := by
  induction j with
  | zero => exact ⟨rfl, fun k hk => absurd hk (by omega)⟩
  | succ j ih =>
    obtain ⟨i1, i2⟩ := ih
    simp only [fmF, i1]
    split
    · rename_i hc
      have hc' : (fmF greaterB T (fun _ => 1) j).1 * 1 < T j * 1 := of_decide_eq_true hc
      refine ⟨rfl, fun k hk => ?_⟩
      by_cases e : k = j
      · subst e; exact Int.le_refl _
      · have := i2 k (by omega)
        show T k ≤ T j
        omega
    · rename_i hc
      have hc' : ¬ (fmF greaterB T (fun _ => 1) j).1 * 1 < T j * 1 := fun h => hc (decide_eq_true h)
      refine ⟨i1, fun k hk => ?_⟩
      by_cases e : k = j
      · subst e; omega
      · exact i2 k (by omega)
theorem inv_bounds {n : Nat} {f : Nat → Nat → Nat → Int} (R : Rng n f) {i : Nat} (hi : i < n) :
    decide ((fmF lessB (topZ n f i fun _ => 1) (fun _ => 1) n).1 = 1 ∧ (fmF greaterB (topZ n f i fun _ => 1) (fun _ => 1) n).1 = 1) = invB n f i := by
  have hT : ∀ j, topZ n f i (fun _ => 1) j = rsZ n f i j := fun j => sumZ_congr fun k _ => by
    show f i j k * 1 = f i j k
    omega
  have hl := (fm_ones_l (topZ n f i fun _ => 1) n).2
  have hg := (fm_ones_g (topZ n f i fun _ => 1) n).2
  obtain ⟨a, ha, ea⟩ := fm_some lessB (topZ n f i fun _ => 1) (fun _ => 1) R.h0 n (Nat.le_refl _)
  obtain ⟨b, hb, eb⟩ := fm_some greaterB (topZ n f i fun _ => 1) (fun _ => 1) R.h0 n (Nat.le_refl _)
  rw [Bool.eq_iff_iff, decide_eq_true_iff, inv_iff R hi]
  constructor
  · rintro ⟨h1, h2⟩ j hj
    have := hl j hj
    have := hg j hj
    rw [hT j] at *
    omega
  · intro h
    rw [ea, eb]
    exact ⟨by show topZ n f i (fun _ => 1) a = 1; rw [hT, h a ha], by show topZ n f i (fun _ => 1) b = 1; rw [hT, h b hb]⟩
set_option maxHeartbeats 4000000 in
set_option maxRecDepth 100000 in
theorem isInvertible_f (b off n c : Nat) (B O C : Nat → Nat) (B2 O2 C2 : Nat → Nat → Nat) (f : Nat → Nat → Nat → Int) (i : Nat) (w : World) (h : CubeAt w b off n B O C B2 O2 C2 f) (R : Rng n f) (hi : i < n) :
    Calls Try.prog 107 #[.agg #[.slice (some ⟨b, off, none⟩) n c], .int .i64 i] w fun e w' => e = .returned (.bool (invB n f i)) ∧ Below w.heap.size w w' := by
  have H := Lib.hid h
  have HR := Lib.hid R
  have h0 := R.h0
  have h16 := R.h16
  have HV := Lib.hid (inv_bounds R hi)
  obtain ⟨x1, hx1⟩ : ∃ x, x = (fmF lessB (topZ n f i fun _ => 1) (fun _ => 1) n).1 := ⟨_, rfl⟩
  obtain ⟨x3, hx3⟩ : ∃ x, x = (fmF greaterB (topZ n f i fun _ => 1) (fun _ => 1) n).1 := ⟨_, rfl⟩
  have HBV := Lib.hid (show bdV n f i (fun _ => 1) = .agg #[.int .i64 x1, .int .i64 1, .int .i64 x3, .int .i64 1] by
    unfold bdV; rw [(fm_ones_l (topZ n f i fun _ => 1) n).1, (fm_ones_g (topZ n f i fun _ => 1) n).1, hx1, hx3])
  rw [← hx1, ← hx3] at HV
  clear hx1 hx3
  obtain ⟨W, hW⟩ : ∃ W, W = w.alloc (.cells #[.slice (some ⟨b, off, none⟩) n c] 28) := ⟨_, rfl⟩
  have HWe := Lib.hid hW
  have HW0 := Lib.hid (show Below w.heap.size w W by rw [hW]; exact below_alloc w _)
  have HWs := Lib.hid (show W.heap.size = w.heap.size + 1 by rw [hW]; simp)
  have KW := Lib.hid (show W.cell? ⟨w.heap.size, 0, none⟩ = some (.slice (some ⟨b, off, none⟩) n c) by rw [hW]; exact cell_box _ _ _)
  clear hW h R
  go_enter Try.func107, Try.ntmps107
  go_wp2_with fail
  rw [← HWe.out]
  have HV2 : Hid (invB n f i = ((x1 == 1) && (x3 == 1))) := Lib.hid (by
    rw [← HV.out]
    by_cases p : x1 = 1
    · by_cases q : x3 = 1 <;> simp [p, q]
    · simp [p])
  cases hb1 : (x1 == 1) <;> cases hb3 : (x3 == 1)
  all_goals
    have HF := Lib.hid (show invB n f i = _ by rw [HV2.out, hb1, hb3])
    have z11 : ((1 : Int) == 1) = true := by decide
    go_region_held3 (fun u => u.cell? ⟨w.heap.size, 0, none⟩ = some (.slice (some ⟨b, off, none⟩) n c)) (first | exact KB.out | exact KA.out | exact KW.out) (first | (have q9 := HB1.out; clear q9; go_at_call 115; refine (bounds_f b off n c B O C B2 O2 C2 f i (some ⟨g1, 0, none⟩) n (fun _ => 1) _ (H.out.below (HW0.out.trans (HB1.out.mono (by rw [HWs.out]; omega)))) (RowI.rd HR1.out) h16 h0 HR.out.num (fun k hk => by decide) hi).mono ?_; rintro e w3 ⟨rfl, hb2⟩; rw [HBV.out]; have HB2 := Lib.hid (HB1.out.trans (hb2.mono HB1.out.size)); have KB := Lib.hid (show w3.cell? ⟨w.heap.size, 0, none⟩ = some (.slice (some ⟨b, off, none⟩) n c) from (HB2.out.cell (p := ⟨w.heap.size, 0, none⟩) (by rw [HWs.out]; show w.heap.size < _; omega)).trans KW.out); clear hb2) | (go_at_call 116; refine (firstWeights_f _ n c _ h0 (by omega)).mono ?_; rintro e w2 ⟨g1, rfl, hg1, hr1, hb1⟩; have HB1 := Lib.hid (show Below W.heap.size W w2 from ⟨hb1.os, hb1.tape, hb1.output, hb1.size, hb1.block⟩); have HR1 := Lib.hid hr1; have KA := Lib.hid (show w2.cell? ⟨w.heap.size, 0, none⟩ = some (.slice (some ⟨b, off, none⟩) n c) from (HB1.out.cell (p := ⟨w.heap.size, 0, none⟩) (by rw [HWs.out]; show w.heap.size < _; omega)).trans KW.out); clear hg1 hr1 hb1))
    clear KA HB1 hb1 hb3
    go_wp2_with fail
    go_ret
    exact ⟨ret_bool HF.out.symm, HW0.out.trans (HB2.out.mono (by rw [HWs.out]; omega))⟩
end Go.Proofs.Ytpfodikmidgpmaa
