/- IsSubring of both. -/
import Derived.Test.YtpfodikmidgpmaaSbO
namespace Go.Proofs.Ytpfodikmidgpmaa
open Go.RowKit
set_option linter.unusedSimpArgs false
set_option linter.unusedVariables false
/-- a number is a set of labels -/
def setB (n : Nat) (k : Int) : Bool := decide (0 ≤ k ∧ k < ((2 ^ n : Nat) : Int))
/-- a set is a subring -/
noncomputable def sbrB (n : Nat) (f : Nat → Nat → Nat → Int) (s : Nat) : Bool := @decide (Sbr n f s) (Classical.propDecidable _)
theorem sbrB_of {n : Nat} {f : Nat → Nat → Nat → Int} {s : Nat} {r : Bool} (h : r = true ↔ Sbr n f s) : r = sbrB n f s := by
  unfold sbrB
  rw [Bool.eq_iff_iff, @decide_eq_true_iff _ (Classical.propDecidable _)]
  exact h
theorem shr_zero (s n : Nat) : ((s : Int) / 2 ^ n == 0) = decide (s < 2 ^ n) := by
  rw [div_pow_nat]
  have hp : 0 < 2 ^ n := Nat.pow_pos (by omega)
  by_cases h : s < 2 ^ n
  · rw [Nat.div_eq_of_lt h, decide_eq_true h]; rfl
  · rw [decide_eq_false h]
    have : 1 ≤ s / 2 ^ n := (Nat.le_div_iff_mul_le hp).2 (by omega)
    obtain ⟨q, hq⟩ : ∃ q, s / 2 ^ n = q + 1 := ⟨s / 2 ^ n - 1, by omega⟩
    rw [hq]
    simp
    omega
theorem setB_nat (n s : Nat) : setB n (s : Int) = decide (s < 2 ^ n) := by
  unfold setB
  by_cases h : s < 2 ^ n
  · rw [decide_eq_true h, decide_eq_true ⟨by omega, by omega⟩]
  · rw [decide_eq_false h, decide_eq_false (by omega)]
theorem setB_neg {n : Nat} {k : Int} (h : k < 0) : setB n k = false := decide_eq_false (by omega)
theorem setB_t {n : Nat} {k : Int} (h : setB n k = true) : ∃ s : Nat, k = (s : Int) ∧ s < 2 ^ n := by
  have := of_decide_eq_true h
  exact ⟨k.toNat, by omega, by omega⟩
set_option maxRecDepth 100000 in
theorem isLabelSet_f (a : Option Addr) (n c : Nat) (k : Int) (w : World) (h16 : n ≤ 16) :
    Calls Try.prog 50 #[.agg #[.slice a n c], .int .i64 k] w fun e w' => e = .returned (.bool (setB n k)) ∧ Below w.heap.size w w' := by
  by_cases h : 0 ≤ k
  · have hd : decide (0 ≤ k) = true := by simp; omega
    obtain ⟨s, rfl⟩ : ∃ s : Nat, k = (s : Int) := ⟨k.toNat, by omega⟩
    have HS := Lib.hid (show decide (s < 2 ^ n) = setB n (s : Int) from (setB_nat n s).symm)
    have HZ := Lib.hid (shr_zero s n)
    go_enter Try.func50, Try.ntmps50
    go_wp2_with fail
    refine (rank_f _ n c _).mono ?_
    rintro e w1 ⟨rfl, hb1⟩
    have HB := Lib.hid ((below_alloc w (.cells #[.slice a n c] 28)).trans (hb1.mono (by simp)))
    clear hb1
    go_wp2_with fail
    go_ret
    refine ⟨ret_bool ?_, HB.out⟩
    rw [← HS.out, ← HZ.out]
  · have hd : decide (0 ≤ k) = false := by simp; omega
    have HS := Lib.hid (show false = setB n k from (setB_neg (by omega)).symm)
    go_enter Try.func50, Try.ntmps50
    go_wp2_with fail
    go_ret
    exact ⟨ret_bool HS.out, below_alloc _ _⟩
theorem set_in (n : Nat) (k : Int) : inB 0 ((2 ^ n - 1 : Nat) : Int) k = setB n k := by
  have hp : 0 < 2 ^ n := Nat.pow_pos (by omega)
  unfold setB
  by_cases h : 0 ≤ k ∧ k < ((2 ^ n : Nat) : Int)
  · rw [decide_eq_true h, inB_mk h.1 (by omega)]
  · rw [decide_eq_false h, inB_no (by omega)]
set_option maxRecDepth 100000 in
theorem l05Code_f (a : Option Addr) (n c : Nat) (M : Nat → Nat) (L : Nat → Nat → Nat) (f : Nat → Nat → Nat → Int) (k : Int) (w : World) (h : RdT w a n M L f) (hn : n ≤ 1048576) (hM : ∀ i, i < n → M i ≤ 1048576) (hL : ∀ i, i < n → ∀ j, j < M i → L i j ≤ 1048576) :
    Calls Try.prog 46 #[.agg #[.slice a n c], .int .i64 k] w fun e w' => e = .returned (.int .i64 (cSF (ringB n M L f) (setB n k))) ∧ Below w.heap.size w w' := by
  have HI := Lib.hid (fun u (hu : Below w.heap.size w u) => l03Is_f a n c M L f u (h.below hu (Nat.le_refl _)) hn hM hL)
  clear hM hL
  cases hr : ringB n M L f
  · rw [hr] at HI
    clear h hr
    go_enter Try.func46, Try.ntmps46
    go_wp2_with fail
    refine (HI.out _ (below_alloc _ _)).mono ?_
    rintro e w1 ⟨rfl, hb⟩
    have HB := Lib.hid ((below_alloc w (.cells #[.slice a n c] 28)).trans (hb.mono (by simp)))
    have hsz : w.heap.size < w1.heap.size := by have := hb.size; simp at this; omega
    have e0 : w1.cell? ⟨w.heap.size, 0, none⟩ = some (.slice a n c) := by
      rw [hb.cell (p := ⟨w.heap.size, 0, none⟩) (by simp)]; exact cell_box _ _ _
    have E0 := Lib.hid e0
    clear hb
    go_wp2_with fail
    go_ret
    exact ⟨rfl, HB.out⟩
  · have HRg := Lib.hid (rng_of hr)
    obtain ⟨h0, h16, hf, hd, b, off, B, O, C, B2, O2, C2, rfl, hat⟩ := ring_open h hr
    have HAt := Lib.hid hat
    rw [hr] at HI
    clear h hd hf hr hat
    go_enter Try.func46, Try.ntmps46
    go_wp2_with fail
    refine (HI.out _ (below_alloc _ _)).mono ?_
    rintro e w1 ⟨rfl, hb⟩
    have HB := Lib.hid ((below_alloc w (.cells #[.slice (some ⟨b, off, none⟩) n c] 28)).trans (hb.mono (by simp)))
    have hsz : w.heap.size < w1.heap.size := by have := hb.size; simp at this; omega
    have e0 : w1.cell? ⟨w.heap.size, 0, none⟩ = some (.slice (some ⟨b, off, none⟩) n c) := by
      rw [hb.cell (p := ⟨w.heap.size, 0, none⟩) (by simp)]; exact cell_box _ _ _
    have E0 := Lib.hid e0
    clear hb
    have HIn := Lib.hid (fun u => l01In_any k 0 ((2 ^ n - 1 : Nat) : Int) u)
    rw [set_in] at HIn
    have HAl := Lib.hid (fun u => l05All_f (some ⟨b, off, none⟩) n c u h16)
    go_wp2_with fail
    clear e0
    refine (HAl.out _).mono ?_
    rintro e w3 ⟨rfl, hb3⟩
    have HB3 := Lib.hid (HB.out.trans (hb3.mono HB.out.size))
    clear hb3
    cases hs : setB n k
    · rw [hs] at HIn
      go_wp2_with fail
      refine (HIn.out _).mono ?_
      rintro e w4 ⟨rfl, rfl⟩
      go_wp2_with fail
      go_ret
      exact ⟨by rw [hs]; rfl, HB3.out⟩
    · rw [hs] at HIn
      go_wp2_with fail
      refine (HIn.out _).mono ?_
      rintro e w4 ⟨rfl, rfl⟩
      go_wp2_with fail
      go_ret
      exact ⟨by rw [hs]; rfl, HB3.out⟩
set_option maxRecDepth 100000 in
theorem implIss_f (a : Option Addr) (n c : Nat) (M : Nat → Nat) (L : Nat → Nat → Nat) (f : Nat → Nat → Nat → Int) (k : Int) (w : World) (h : RdT w a n M L f) (hn : n ≤ 1048576) (hM : ∀ i, i < n → M i ≤ 1048576) (hL : ∀ i, i < n → ∀ j, j < M i → L i j ≤ 1048576) (hk : (Lit.int .i64 k).wf = true) :
    Calls Try.prog 17 #[.agg #[.slice a n c], .int .i64 k] w (BoolCode w (ringB n M L f && (setB n k && sbrB n f k.toNat)) (cSF (ringB n M L f) (setB n k))) := by
  have HI := Lib.hid (fun u (hu : Below w.heap.size w u) => implIsRing_f a n c M L f u (h.below hu (Nat.le_refl _)) hn hM hL)
  clear hM hL
  cases hr : ringB n M L f
  · rw [hr] at HI
    clear h hr
    go_enter Try.func17, Try.ntmps17
    go_wp2_with fail
    refine (HI.out _ (below_alloc _ _)).mono ?_
    rintro e w1 ⟨rfl, hb⟩
    have HB := Lib.hid ((below_alloc w (.cells #[.slice a n c] 28)).trans (hb.mono (by simp)))
    have hsz : w.heap.size < w1.heap.size := by have := hb.size; simp at this; omega
    have e0 : w1.cell? ⟨w.heap.size, 0, none⟩ = some (.slice a n c) := by
      rw [hb.cell (p := ⟨w.heap.size, 0, none⟩) (by simp)]; exact cell_box _ _ _
    have E0 := Lib.hid e0
    clear hb
    go_wp2_with fail
    go_ret2
    exact ⟨rfl, HB.out⟩
  · have HRg := Lib.hid (rng_of hr)
    obtain ⟨h0, h16, hf, hd, b, off, B, O, C, B2, O2, C2, rfl, hat⟩ := ring_open h hr
    have HAt := Lib.hid hat
    rw [hr] at HI
    clear h hd hf hr hat
    go_enter Try.func17, Try.ntmps17
    go_wp2_with fail
    refine (HI.out _ (below_alloc _ _)).mono ?_
    rintro e w1 ⟨rfl, hb⟩
    have HB := Lib.hid ((below_alloc w (.cells #[.slice (some ⟨b, off, none⟩) n c] 28)).trans (hb.mono (by simp)))
    have hsz : w.heap.size < w1.heap.size := by have := hb.size; simp at this; omega
    have e0 : w1.cell? ⟨w.heap.size, 0, none⟩ = some (.slice (some ⟨b, off, none⟩) n c) := by
      rw [hb.cell (p := ⟨w.heap.size, 0, none⟩) (by simp)]; exact cell_box _ _ _
    have E0 := Lib.hid e0
    clear hb
    have HLs := Lib.hid (fun u => isLabelSet_f (some ⟨b, off, none⟩) n c k u h16)
    cases hs : setB n k
    · rw [hs] at HLs
      go_wp2_with fail
      clear e0
      refine (HLs.out _).mono ?_
      rintro e w3 ⟨rfl, hb3⟩
      have HB3 := Lib.hid (HB.out.trans (hb3.mono HB.out.size))
      clear hb3
      go_wp2_with fail
      go_ret2
      exact ⟨by rw [hs]; rfl, HB3.out⟩
    · rw [hs] at HLs
      obtain ⟨s, rfl, hsl⟩ := setB_t hs
      go_wp2_with fail
      clear e0
      refine (HLs.out _).mono ?_
      rintro e w3 ⟨rfl, hb3⟩
      have HB3 := Lib.hid (HB.out.trans (hb3.mono HB.out.size))
      have e0 : w3.cell? ⟨w.heap.size, 0, none⟩ = some (.slice (some ⟨b, off, none⟩) n c) := (hb3.cell (p := ⟨w.heap.size, 0, none⟩) hsz).trans E0.out
      clear hb3
      go_wp2_with fail
      clear e0
      refine (occurrences_f b off n c B O C B2 O2 C2 f _ (HAt.out.below HB3.out) h0 h16).mono ?_
      rintro e w4 ⟨T, G, C', rfl, hocc, hb4⟩
      have HO := Lib.hid hocc
      have HB4 := Lib.hid (HB3.out.trans (hb4.mono HB3.out.size))
      clear hocc hb4
      go_wp2_with fail
      refine (isSubring_f T 0 n n G (fun _ => 0) C' f s _ HO.out h16 hsl).mono ?_
      rintro e w6 ⟨r, rfl, hg, hb6⟩
      have HG := Lib.hid (sbrB_of hg)
      have HB6 := Lib.hid (HB4.out.trans (hb6.mono HB4.out.size))
      clear hg hb6
      go_wp2_with fail
      go_ret2
      refine ⟨?_, HB6.out⟩
      rw [HG.out, hs, Int.toNat_natCast]; rfl
set_option maxRecDepth 100000 in
theorem specIss_f (a : Option Addr) (n c : Nat) (M : Nat → Nat) (L : Nat → Nat → Nat) (f : Nat → Nat → Nat → Int) (k : Int) (w : World) (h : RdT w a n M L f) (hn : n ≤ 1048576) (hM : ∀ i, i < n → M i ≤ 1048576) (hL : ∀ i, i < n → ∀ j, j < M i → L i j ≤ 1048576) (hk : (Lit.int .i64 k).wf = true) :
    Calls Try.prog 15 #[.agg #[.slice a n c], .int .i64 k] w (BoolCode w (ringB n M L f && (setB n k && sbrB n f k.toNat)) (cSF (ringB n M L f) (setB n k))) := by
  have HI := Lib.hid (fun u (hu : Below w.heap.size w u) => l05Code_f a n c M L f k u (h.below hu (Nat.le_refl _)) hn hM hL)
  clear hM hL
  have fin0 : ∀ (v : Int), (v = 1 ∨ v = 2) → (v != 0) = true := by intro v hv; rcases hv with rfl | rfl <;> rfl
  cases hr : ringB n M L f
  · rw [hr] at HI
    clear h hr
    go_enter Try.func15, Try.ntmps15
    go_wp2_with fail
    refine (HI.out _ (below_alloc _ _)).mono ?_
    rintro e w1 ⟨rfl, hb⟩
    have HB := Lib.hid ((below_alloc w (.cells #[.slice a n c] 28)).trans (hb.mono (by simp)))
    have hsz : w.heap.size < w1.heap.size := by have := hb.size; simp at this; omega
    have e0 : w1.cell? ⟨w.heap.size, 0, none⟩ = some (.slice a n c) := by
      rw [hb.cell (p := ⟨w.heap.size, 0, none⟩) (by simp)]; exact cell_box _ _ _
    have E0 := Lib.hid e0
    clear hb
    have HV := Lib.hid (show cSF false (setB n k) = 1 from rfl)
    rw [HV.out]
    go_wp2_with fail
    go_ret2
    exact ⟨rfl, HB.out⟩
  · have HRg := Lib.hid (rng_of hr)
    obtain ⟨h0, h16, hf, hd, b, off, B, O, C, B2, O2, C2, rfl, hat⟩ := ring_open h hr
    have HAt := Lib.hid hat
    rw [hr] at HI
    clear h hd hf hr hat
    cases hs : setB n k
    · rw [hs] at HI
      go_enter Try.func15, Try.ntmps15
      go_wp2_with fail
      refine (HI.out _ (below_alloc _ _)).mono ?_
      rintro e w1 ⟨rfl, hb⟩
      have HB := Lib.hid ((below_alloc w (.cells #[.slice (some ⟨b, off, none⟩) n c] 28)).trans (hb.mono (by simp)))
      have hsz : w.heap.size < w1.heap.size := by have := hb.size; simp at this; omega
      have e0 : w1.cell? ⟨w.heap.size, 0, none⟩ = some (.slice (some ⟨b, off, none⟩) n c) := by
        rw [hb.cell (p := ⟨w.heap.size, 0, none⟩) (by simp)]; exact cell_box _ _ _
      have E0 := Lib.hid e0
      clear hb
      have HV := Lib.hid (show cSF true false = 2 from rfl)
      rw [HV.out]
      go_wp2_with fail
      go_ret2
      exact ⟨rfl, HB.out⟩
    · rw [hs] at HI
      obtain ⟨s, rfl, hsl⟩ := setB_t hs
      go_enter Try.func15, Try.ntmps15
      go_wp2_with fail
      refine (HI.out _ (below_alloc _ _)).mono ?_
      rintro e w1 ⟨rfl, hb⟩
      have HB := Lib.hid ((below_alloc w (.cells #[.slice (some ⟨b, off, none⟩) n c] 28)).trans (hb.mono (by simp)))
      have hsz : w.heap.size < w1.heap.size := by have := hb.size; simp at this; omega
      have e0 : w1.cell? ⟨w.heap.size, 0, none⟩ = some (.slice (some ⟨b, off, none⟩) n c) := by
        rw [hb.cell (p := ⟨w.heap.size, 0, none⟩) (by simp)]; exact cell_box _ _ _
      have E0 := Lib.hid e0
      clear hb
      have HV := Lib.hid (show cSF true true = 0 from rfl)
      rw [HV.out]
      go_wp2_with fail
      clear e0
      refine (l05Is_f b off n c B O C B2 O2 C2 f s _ (HAt.out.below HB.out) HRg.out hsl).mono ?_
      rintro e w3 ⟨r, rfl, hg, hb3⟩
      have HG := Lib.hid (sbrB_of hg)
      have HB3 := Lib.hid (HB.out.trans (hb3.mono HB.out.size))
      clear hg hb3
      go_wp2_with fail
      go_ret2
      refine ⟨?_, HB3.out⟩
      rw [HG.out, Int.toNat_natCast]; rfl
end Go.Proofs.Ytpfodikmidgpmaa
