/- ComponentsOf and CosetsOf of both. -/
import Derived.Test.YtpfodikmidgpmaaSbS
import Derived.Test.YtpfodikmidgpmaaSbP
namespace Go.Proofs.Ytpfodikmidgpmaa
open Go.RowKit
set_option linter.unusedSimpArgs false
set_option linter.unusedVariables false
set_option maxRecDepth 100000 in
theorem components_f (b off n c : Nat) (B O C : Nat → Nat) (f : Nat → Nat → Nat → Int) (w : World) (h : OccP w b off n B O C (occ n f)) (h0 : 0 < n) (h16 : n ≤ 16) :
    Calls Try.prog 75 #[.slice (some ⟨b, off, none⟩) n c] w fun e w' => ∃ g, e = .returned (.slice (some ⟨g, 0, none⟩) n n) ∧ w.heap.size ≤ g ∧ RowI w' 2 g n (csN n f (adV n f)) ∧ Below w.heap.size w w' := by
  have HO := Lib.hid h
  have HAl := Lib.hid (fun u => all_f (some ⟨b, off, none⟩) n c u h16)
  have HAd := Lib.hid (adjoint_f b off n c B O C f (allS n) w h h0 h16 (allS_lt n))
  clear h
  go_enter Try.func75, Try.ntmps75
  go_wp2_with first | (go_at_call 71; refine (HAl.out _).mono ?_; rintro e w5 ⟨rfl, rfl⟩) | (go_at_call 70; refine HAd.out.mono ?_; rintro e w6 ⟨s, rfl, hg, hb6⟩; have HG := Lib.hid hg; have HB6 := Lib.hid hb6; clear hg hb6) | (go_at_call 76; refine (cosets_f b off n c B O C f s w6 (HO.out.below HB6.out (Nat.le_refl _)) h0 h16 HG.out.1.1).mono ?_; rintro e w7 ⟨g, rfl, hgl, hrow, hb7⟩; have HR := Lib.hid hrow; have HB7 := Lib.hid (HB6.out.trans (hb7.mono HB6.out.size)); have HGl := Lib.hid (Nat.le_trans HB6.out.size hgl); clear hgl hrow hb7)
  have HE := Lib.hid (gen_eq HG.out)
  go_ret
  refine ⟨g, rfl, HGl.out, ?_, HB7.out⟩
  have := HR.out
  rw [HE.out] at this
  exact this
set_option maxRecDepth 100000 in
theorem implCmp_f (a : Option Addr) (n c : Nat) (M : Nat → Nat) (L : Nat → Nat → Nat) (f : Nat → Nat → Nat → Int) (w : World) (h : RdT w a n M L f) (hn : n ≤ 1048576) (hM : ∀ i, i < n → M i ≤ 1048576) (hL : ∀ i, i < n → ∀ j, j < M i → L i j ≤ 1048576) :
    Calls Try.prog 38 #[.agg #[.slice a n c]] w (RowRes w (nRg (ringB n M L f) n) (csN n f (adV n f)) (cRg (ringB n M L f))) := by
  have HI := Lib.hid (fun u (hu : Below w.heap.size w u) => implIsRing_f a n c M L f u (h.below hu (Nat.le_refl _)) hn hM hL)
  clear hM hL
  cases hr : ringB n M L f
  · rw [hr] at HI
    clear h hr
    go_enter Try.func38, Try.ntmps38
    go_wp2_with fail
    refine (HI.out _ (below_alloc _ _)).mono ?_
    rintro e w1 ⟨rfl, hb⟩
    have HB := Lib.hid ((below_alloc w (.cells #[.slice a n c] 28)).trans (hb.mono (by simp)))
    have hsz : w.heap.size < w1.heap.size := by have := hb.size; simp at this; omega
    have e0 : w1.cell? ⟨w.heap.size, 0, none⟩ = some (.slice a n c) := by
      rw [hb.cell (p := ⟨w.heap.size, 0, none⟩) (by simp)]; exact cell_box _ _ _
    have E0 := Lib.hid e0
    clear hb
    go_wp2_with fail
    go_ret2
    exact rowRes_none rfl rfl HB.out
  · have HRg := Lib.hid (rng_of hr)
    obtain ⟨h0, h16, hf, hd, b, off, B, O, C, B2, O2, C2, rfl, hat⟩ := ring_open h hr
    have HAt := Lib.hid hat
    rw [hr] at HI
    clear h hd hf hr hat
    go_enter Try.func38, Try.ntmps38
    go_wp2_with fail
    refine (HI.out _ (below_alloc _ _)).mono ?_
    rintro e w1 ⟨rfl, hb⟩
    have HB := Lib.hid ((below_alloc w (.cells #[.slice (some ⟨b, off, none⟩) n c] 28)).trans (hb.mono (by simp)))
    have hsz : w.heap.size < w1.heap.size := by have := hb.size; simp at this; omega
    have e0 : w1.cell? ⟨w.heap.size, 0, none⟩ = some (.slice (some ⟨b, off, none⟩) n c) := by
      rw [hb.cell (p := ⟨w.heap.size, 0, none⟩) (by simp)]; exact cell_box _ _ _
    have E0 := Lib.hid e0
    clear hb
    go_wp2_with fail
    clear e0
    refine (occurrences_f b off n c B O C B2 O2 C2 f _ (HAt.out.below HB.out) h0 h16).mono ?_
    rintro e w3 ⟨T, G, C', rfl, hocc, hb3⟩
    have HO := Lib.hid hocc
    have HB3 := Lib.hid (HB.out.trans (hb3.mono HB.out.size))
    clear hocc hb3
    go_wp2_with fail
    refine (components_f T 0 n n G (fun _ => 0) C' f _ HO.out h0 h16).mono ?_
    rintro e w6 ⟨g, rfl, hgl, hrow, hb6⟩
    have HR := Lib.hid hrow
    have HG := Lib.hid (show w.heap.size ≤ g from Nat.le_trans HB3.out.size hgl)
    have HB6 := Lib.hid (HB3.out.trans (hb6.mono HB3.out.size))
    clear hrow hgl hb6
    go_wp2_with fail
    go_ret2
    exact ⟨_, _, rfl, Or.inr ⟨g, rfl, HG.out, HR.out⟩, HB6.out⟩
set_option maxRecDepth 100000 in
theorem specCmp_f (a : Option Addr) (n c : Nat) (M : Nat → Nat) (L : Nat → Nat → Nat) (f : Nat → Nat → Nat → Int) (w : World) (h : RdT w a n M L f) (hn : n ≤ 1048576) (hM : ∀ i, i < n → M i ≤ 1048576) (hL : ∀ i, i < n → ∀ j, j < M i → L i j ≤ 1048576) :
    Calls Try.prog 37 #[.agg #[.slice a n c]] w (RowRes w (nRg (ringB n M L f) n) (csN n f (adV n f)) (cRg (ringB n M L f))) := by
  have HI := Lib.hid (fun u (hu : Below w.heap.size w u) => l03Is_f a n c M L f u (h.below hu (Nat.le_refl _)) hn hM hL)
  clear hM hL
  cases hr : ringB n M L f
  · rw [hr] at HI
    clear h hr
    go_enter Try.func37, Try.ntmps37
    go_wp2_with fail
    refine (HI.out _ (below_alloc _ _)).mono ?_
    rintro e w1 ⟨rfl, hb⟩
    have HB := Lib.hid ((below_alloc w (.cells #[.slice a n c] 28)).trans (hb.mono (by simp)))
    have hsz : w.heap.size < w1.heap.size := by have := hb.size; simp at this; omega
    have e0 : w1.cell? ⟨w.heap.size, 0, none⟩ = some (.slice a n c) := by
      rw [hb.cell (p := ⟨w.heap.size, 0, none⟩) (by simp)]; exact cell_box _ _ _
    have E0 := Lib.hid e0
    clear hb
    go_wp2_with fail
    go_ret2
    exact rowRes_none rfl rfl HB.out
  · have HRg := Lib.hid (rng_of hr)
    obtain ⟨h0, h16, hf, hd, b, off, B, O, C, B2, O2, C2, rfl, hat⟩ := ring_open h hr
    have HAt := Lib.hid hat
    rw [hr] at HI
    clear h hd hf hr hat
    go_enter Try.func37, Try.ntmps37
    go_wp2_with fail
    refine (HI.out _ (below_alloc _ _)).mono ?_
    rintro e w1 ⟨rfl, hb⟩
    have HB := Lib.hid ((below_alloc w (.cells #[.slice (some ⟨b, off, none⟩) n c] 28)).trans (hb.mono (by simp)))
    have hsz : w.heap.size < w1.heap.size := by have := hb.size; simp at this; omega
    have e0 : w1.cell? ⟨w.heap.size, 0, none⟩ = some (.slice (some ⟨b, off, none⟩) n c) := by
      rw [hb.cell (p := ⟨w.heap.size, 0, none⟩) (by simp)]; exact cell_box _ _ _
    have E0 := Lib.hid e0
    clear hb
    go_wp2_with fail
    clear e0
    go_region_held3 (fun u => u.cell? ⟨w.heap.size, 0, none⟩ = some (.slice (some ⟨b, off, none⟩) n c)) (first | exact KB.out | exact KA.out | exact E0.out) (first | (have q9 := HB3.out; clear q9; go_at_call 74; refine (l05Cosets_f b off n c B O C B2 O2 C2 f s _ (HAt.out.below HB3.out) HRg.out HG.out.1).mono ?_; rintro e w6 ⟨g, cg, rfl, hgl, hrow, hb6⟩; have HR := Lib.hid hrow; have HGl := Lib.hid (Nat.le_trans HB3.out.size hgl); have HB6 := Lib.hid (HB3.out.trans (hb6.mono HB3.out.size)); have KB := Lib.hid ((hb6.cell (p := ⟨w.heap.size, 0, none⟩) (by have := HL3.out; show w.heap.size < _; omega)).trans KA.out); clear hrow hgl hb6) | (go_at_call 69; refine (l05Adjoint_f b off n c B O C B2 O2 C2 f _ (HAt.out.below HB.out.drew) HRg.out).mono ?_; rintro e w3 ⟨s, rfl, hg, hb3⟩; have HG := Lib.hid hg; have hb4 : Below w1.heap.size w1 w3 := ⟨hb3.os, hb3.tape, hb3.output, hb3.size, hb3.block⟩; have HB3 := Lib.hid (HB.out.trans (hb4.mono HB.out.size)); have KA := Lib.hid ((hb4.cell (p := ⟨w.heap.size, 0, none⟩) hsz).trans E0.out); have HL3 := Lib.hid (Nat.lt_of_lt_of_le hsz hb4.size); clear hg hb3 hb4))
    clear KA KB HL3
    have HE := Lib.hid (gen_eq HG.out)
    go_wp2_with fail
    go_ret2
    refine ⟨_, _, rfl, Or.inr ⟨g, rfl, HGl.out, ?_⟩, HB6.out⟩
    have := HR.out
    rw [HE.out] at this
    exact this
def cState (r s b : Bool) : Int := if r then (if s then (if b then 0 else 5) else 2) else 1
set_option maxRecDepth 100000 in
theorem subringCode_f (a : Option Addr) (n c : Nat) (M : Nat → Nat) (L : Nat → Nat → Nat) (f : Nat → Nat → Nat → Int) (k : Int) (w : World) (h : RdT w a n M L f) (hn : n ≤ 1048576) (hM : ∀ i, i < n → M i ≤ 1048576) (hL : ∀ i, i < n → ∀ j, j < M i → L i j ≤ 1048576) (hk : (Lit.int .i64 k).wf = true) :
    Calls Try.prog 64 #[.agg #[.slice a n c], .int .i64 k] w fun e w' => e = .returned (.int .i64 (cState (ringB n M L f) (setB n k) (sbrB n f k.toNat))) ∧ Below w.heap.size w w' := by
  have HI := Lib.hid (fun u (hu : Below w.heap.size w u) => implIss_f a n c M L f k u (h.below hu (Nat.le_refl _)) hn hM hL hk)
  clear hM hL h
  obtain ⟨r, hr⟩ : ∃ r, r = ringB n M L f := ⟨_, rfl⟩
  obtain ⟨s, hs⟩ : ∃ s, s = setB n k := ⟨_, rfl⟩
  obtain ⟨t, ht⟩ : ∃ t, t = sbrB n f k.toNat := ⟨_, rfl⟩
  rw [← hr, ← hs, ← ht] at HI ⊢
  clear hr hs ht
  cases r <;> cases s <;> cases t
  all_goals
    go_enter Try.func64, Try.ntmps64
    go_wp2_with fail
    refine (HI.out _ (below_alloc _ _)).mono ?_
    rintro e w1 ⟨rfl, hb⟩
    have HB := Lib.hid ((below_alloc w (.cells #[.slice a n c] 28)).trans (hb.mono (by simp)))
    clear hb
    simp only [Bool.true_and, Bool.false_and, Bool.and_true, Bool.and_false, cSF, if_true, if_false, Bool.false_eq_true, reduceIte]
    go_wp2_with fail
    go_ret
    exact ⟨rfl, HB.out⟩
set_option maxRecDepth 100000 in
theorem implCos_f (a : Option Addr) (n c : Nat) (M : Nat → Nat) (L : Nat → Nat → Nat) (f : Nat → Nat → Nat → Int) (k : Int) (w : World) (h : RdT w a n M L f) (hn : n ≤ 1048576) (hM : ∀ i, i < n → M i ≤ 1048576) (hL : ∀ i, i < n → ∀ j, j < M i → L i j ≤ 1048576) (hk : (Lit.int .i64 k).wf = true) :
    Calls Try.prog 40 #[.agg #[.slice a n c], .int .i64 k] w (RowRes w (nRg (ringB n M L f && (setB n k && sbrB n f k.toNat)) n) (csN n f k.toNat) (cState (ringB n M L f) (setB n k) (sbrB n f k.toNat))) := by
  have HI := Lib.hid (fun u (hu : Below w.heap.size w u) => subringCode_f a n c M L f k u (h.below hu (Nat.le_refl _)) hn hM hL hk)
  clear hM hL
  by_cases hok : ringB n M L f = true ∧ setB n k = true ∧ sbrB n f k.toNat = true
  · obtain ⟨hr, hs, ht⟩ := hok
    have HRg := Lib.hid (rng_of hr)
    obtain ⟨h0, h16, hf, hd, b, off, B, O, C, B2, O2, C2, rfl, hat⟩ := ring_open h hr
    have HAt := Lib.hid hat
    have HSt := Lib.hid ht
    rw [hr, hs, ht] at HI
    rw [hr, hs, ht]
    obtain ⟨s, rfl, hsl⟩ := setB_t hs
    have HV := Lib.hid (show cState true true true = 0 from rfl)
    rw [HV.out] at HI ⊢
    clear h hd hf hr hat hs ht
    go_enter Try.func40, Try.ntmps40
    go_wp2_with fail
    refine (HI.out _ (below_alloc _ _)).mono ?_
    rintro e w1 ⟨rfl, hb⟩
    have HB := Lib.hid ((below_alloc w (.cells #[.slice (some ⟨b, off, none⟩) n c] 28)).trans (hb.mono (by simp)))
    have hsz : w.heap.size < w1.heap.size := by have := hb.size; simp at this; omega
    have e0 : w1.cell? ⟨w.heap.size, 0, none⟩ = some (.slice (some ⟨b, off, none⟩) n c) := by
      rw [hb.cell (p := ⟨w.heap.size, 0, none⟩) (by simp)]; exact cell_box _ _ _
    have E0 := Lib.hid e0
    clear hb
    go_wp2_with fail
    clear e0
    refine (occurrences_f b off n c B O C B2 O2 C2 f _ (HAt.out.below HB.out) h0 h16).mono ?_
    rintro e w3 ⟨T, G, C', rfl, hocc, hb3⟩
    have HO := Lib.hid hocc
    have HB3 := Lib.hid (HB.out.trans (hb3.mono HB.out.size))
    clear hocc hb3
    go_wp2_with fail
    refine (cosets_f T 0 n n G (fun _ => 0) C' f s _ HO.out h0 h16 hsl).mono ?_
    rintro e w6 ⟨g, rfl, hgl, hrow, hb6⟩
    have HR := Lib.hid hrow
    have HG := Lib.hid (show w.heap.size ≤ g from Nat.le_trans HB3.out.size hgl)
    have HB6 := Lib.hid (HB3.out.trans (hb6.mono HB3.out.size))
    clear hrow hgl hb6
    go_wp2_with fail
    go_ret2
    refine ⟨_, _, rfl, Or.inr ⟨g, rfl, HG.out, ?_⟩, HB6.out⟩
    rw [Int.toNat_natCast]
    exact HR.out
  · have hN : (ringB n M L f && (setB n k && sbrB n f k.toNat)) = false := by
      cases h1 : ringB n M L f <;> cases h2 : setB n k <;> cases h3 : sbrB n f k.toNat <;> simp_all
    have hC : cState (ringB n M L f) (setB n k) (sbrB n f k.toNat) = 1 ∨ cState (ringB n M L f) (setB n k) (sbrB n f k.toNat) = 2 ∨ cState (ringB n M L f) (setB n k) (sbrB n f k.toNat) = 5 := by
      cases h1 : ringB n M L f <;> cases h2 : setB n k <;> cases h3 : sbrB n f k.toNat <;> simp_all [cState]
    rw [hN]
    obtain ⟨v, hv⟩ : ∃ v, v = cState (ringB n M L f) (setB n k) (sbrB n f k.toNat) := ⟨_, rfl⟩
    rw [← hv] at hC HI ⊢
    clear hv hN hok h
    have hd : (v != 0) = true := by simp; omega
    go_enter Try.func40, Try.ntmps40
    go_wp2_with fail
    refine (HI.out _ (below_alloc _ _)).mono ?_
    rintro e w1 ⟨rfl, hb⟩
    have HB := Lib.hid ((below_alloc w (.cells #[.slice a n c] 28)).trans (hb.mono (by simp)))
    have hsz : w.heap.size < w1.heap.size := by have := hb.size; simp at this; omega
    have e0 : w1.cell? ⟨w.heap.size, 0, none⟩ = some (.slice a n c) := by
      rw [hb.cell (p := ⟨w.heap.size, 0, none⟩) (by simp)]; exact cell_box _ _ _
    have E0 := Lib.hid e0
    clear hb
    go_wp2_with fail
    go_ret2
    exact rowRes_none rfl rfl HB.out
set_option maxRecDepth 100000 in
theorem specCos_f (a : Option Addr) (n c : Nat) (M : Nat → Nat) (L : Nat → Nat → Nat) (f : Nat → Nat → Nat → Int) (k : Int) (w : World) (h : RdT w a n M L f) (hn : n ≤ 1048576) (hM : ∀ i, i < n → M i ≤ 1048576) (hL : ∀ i, i < n → ∀ j, j < M i → L i j ≤ 1048576) (hk : (Lit.int .i64 k).wf = true) :
    Calls Try.prog 39 #[.agg #[.slice a n c], .int .i64 k] w (RowRes w (nRg (ringB n M L f && (setB n k && sbrB n f k.toNat)) n) (csN n f k.toNat) (cState (ringB n M L f) (setB n k) (sbrB n f k.toNat))) := by
  have HI := Lib.hid (fun u (hu : Below w.heap.size w u) => l05Code_f a n c M L f k u (h.below hu (Nat.le_refl _)) hn hM hL)
  clear hM hL
  by_cases hok : ringB n M L f = true ∧ setB n k = true
  · obtain ⟨hr, hs⟩ := hok
    have HRg := Lib.hid (rng_of hr)
    obtain ⟨h0, h16, hf, hd, b, off, B, O, C, B2, O2, C2, rfl, hat⟩ := ring_open h hr
    have HAt := Lib.hid hat
    rw [hr, hs] at HI
    rw [hr, hs]
    obtain ⟨s, rfl, hsl⟩ := setB_t hs
    have HV := Lib.hid (show cSF true true = 0 from rfl)
    rw [HV.out] at HI
    have HIs := Lib.hid (fun u (hu : Below w.heap.size w u) => l05Is_f b off n c B O C B2 O2 C2 f s u (HAt.out.below hu) HRg.out hsl)
    clear h hd hf hr hat hs
    rw [Int.toNat_natCast]
    cases ht : sbrB n f s
    · go_enter Try.func39, Try.ntmps39
      go_wp2_with fail
      refine (HI.out _ (below_alloc _ _)).mono ?_
      rintro e w1 ⟨rfl, hb⟩
      have HB := Lib.hid ((below_alloc w (.cells #[.slice (some ⟨b, off, none⟩) n c] 28)).trans (hb.mono (by simp)))
      have hsz : w.heap.size < w1.heap.size := by have := hb.size; simp at this; omega
      have e0 : w1.cell? ⟨w.heap.size, 0, none⟩ = some (.slice (some ⟨b, off, none⟩) n c) := by
        rw [hb.cell (p := ⟨w.heap.size, 0, none⟩) (by simp)]; exact cell_box _ _ _
      have E0 := Lib.hid e0
      clear hb
      go_wp2_with fail
      clear e0
      refine (HIs.out _ HB.out).mono ?_
      rintro e w3 ⟨r, rfl, hg, hb3⟩
      have hre := sbrB_of hg
      rw [ht] at hre
      subst hre
      have HB3 := Lib.hid (HB.out.trans (hb3.mono HB.out.size))
      clear hg hb3
      go_wp2_with fail
      go_ret2
      exact rowRes_none rfl rfl HB3.out
    · go_enter Try.func39, Try.ntmps39
      go_wp2_with fail
      refine (HI.out _ (below_alloc _ _)).mono ?_
      rintro e w1 ⟨rfl, hb⟩
      have HB := Lib.hid ((below_alloc w (.cells #[.slice (some ⟨b, off, none⟩) n c] 28)).trans (hb.mono (by simp)))
      have hsz : w.heap.size < w1.heap.size := by have := hb.size; simp at this; omega
      have e0 : w1.cell? ⟨w.heap.size, 0, none⟩ = some (.slice (some ⟨b, off, none⟩) n c) := by
        rw [hb.cell (p := ⟨w.heap.size, 0, none⟩) (by simp)]; exact cell_box _ _ _
      have E0 := Lib.hid e0
      clear hb
      go_wp2_with fail
      clear e0
      refine (HIs.out _ HB.out).mono ?_
      rintro e w3 ⟨r, rfl, hg, hb3⟩
      have hre := sbrB_of hg
      rw [ht] at hre
      subst hre
      have HSb := Lib.hid (hg.1 rfl)
      have HB3 := Lib.hid (HB.out.trans (hb3.mono HB.out.size))
      have e0 : w3.cell? ⟨w.heap.size, 0, none⟩ = some (.slice (some ⟨b, off, none⟩) n c) := (hb3.cell (p := ⟨w.heap.size, 0, none⟩) hsz).trans E0.out
      clear hg hb3
      go_wp2_with fail
      clear e0
      refine (l05Cosets_f b off n c B O C B2 O2 C2 f s _ (HAt.out.below HB3.out) HRg.out HSb.out).mono ?_
      rintro e w6 ⟨g, cg, rfl, hgl, hrow, hb6⟩
      have HR := Lib.hid hrow
      have HG := Lib.hid (show w.heap.size ≤ g from Nat.le_trans HB3.out.size hgl)
      have HB6 := Lib.hid (HB3.out.trans (hb6.mono HB3.out.size))
      clear hrow hgl hb6
      go_wp2_with fail
      go_ret2
      exact ⟨_, _, rfl, Or.inr ⟨g, rfl, HG.out, HR.out⟩, HB6.out⟩
  · have hN : (ringB n M L f && (setB n k && sbrB n f k.toNat)) = false := by
      cases h1 : ringB n M L f <;> cases h2 : setB n k <;> simp_all
    have hC : cState (ringB n M L f) (setB n k) (sbrB n f k.toNat) = cSF (ringB n M L f) (setB n k) := by
      cases h1 : ringB n M L f <;> cases h2 : setB n k <;> simp_all [cState, cSF]
    have hD : cSF (ringB n M L f) (setB n k) = 1 ∨ cSF (ringB n M L f) (setB n k) = 2 := by
      cases h1 : ringB n M L f <;> cases h2 : setB n k <;> simp_all [cSF]
    rw [hN, hC]
    obtain ⟨v, hv⟩ : ∃ v, v = cSF (ringB n M L f) (setB n k) := ⟨_, rfl⟩
    rw [← hv] at hD HI ⊢
    clear hv hN hok h hC
    have hd : (v != 0) = true := by simp; omega
    go_enter Try.func39, Try.ntmps39
    go_wp2_with fail
    refine (HI.out _ (below_alloc _ _)).mono ?_
    rintro e w1 ⟨rfl, hb⟩
    have HB := Lib.hid ((below_alloc w (.cells #[.slice a n c] 28)).trans (hb.mono (by simp)))
    have hsz : w.heap.size < w1.heap.size := by have := hb.size; simp at this; omega
    have e0 : w1.cell? ⟨w.heap.size, 0, none⟩ = some (.slice a n c) := by
      rw [hb.cell (p := ⟨w.heap.size, 0, none⟩) (by simp)]; exact cell_box _ _ _
    have E0 := Lib.hid e0
    clear hb
    go_wp2_with fail
    go_ret2
    exact rowRes_none rfl rfl HB.out
theorem implCmp_f_rows (n : Nat) (M : Nat → Nat) (L : Nat → Nat → Nat) (f : Nat → Nat → Nat → Int) : nRg (ringB n M L f) n ≤ 64 := nRg_le
theorem implCos_f_rows (n : Nat) (M : Nat → Nat) (L : Nat → Nat → Nat) (f : Nat → Nat → Nat → Int) (k : Int) : nRg (ringB n M L f && (setB n k && sbrB n f k.toNat)) n ≤ 64 := by
  have h1 := nRg_le (n := n) (M := M) (L := L) (f := f)
  unfold nRg at *
  cases h2 : ringB n M L f
  · simp
  · rw [h2] at h1
    simp only [if_true, Bool.true_and] at *
    split <;> omega
end Go.Proofs.Ytpfodikmidgpmaa
