/- PowerOfLabel of both. -/
import Derived.Test.YtaffdoihmalilabRgN
namespace Go.Proofs.Ytaffdoihmalilab
open Go.RowKit
set_option linter.unusedSimpArgs false
def labB (n : Nat) (i : Int) : Bool := decide (0 ≤ i ∧ i < n)
def expB (k : Int) : Bool := decide (0 ≤ k ∧ k ≤ 40)
theorem lab_in (n : Nat) (i : Int) : inB 0 ((n : Int) - 1) i = labB n i := by
  unfold labB
  by_cases h : 0 ≤ i ∧ i < n
  · rw [decide_eq_true h, inB_mk h.1 (by omega)]
  · rw [decide_eq_false h, inB_no (by omega)]
theorem exp_in (k : Int) : inB 0 40 k = expB k := by
  unfold expB
  by_cases h : 0 ≤ k ∧ k ≤ 40
  · rw [decide_eq_true h, inB_mk h.1 h.2]
  · rw [decide_eq_false h, inB_no (by omega)]
/-- the code of a power -/
def cPow (r l o : Bool) : Int := if r then (if l then (if o then 0 else 3) else 2) else 1
theorem hasLabel_f (a : Option Addr) (n c : Nat) (i : Int) (w : World) : Calls Try.prog 64 #[.agg #[.slice a n c], .int .i64 i] w fun e w' => e = .returned (.bool (labB n i)) ∧ Below w.heap.size w w' := by
  by_cases h : 0 ≤ i
  · have hd : decide (0 ≤ i) = true := by simp; omega
    by_cases h2 : i < n
    · have hd2 : decide (i < (n : Int)) = true := by simp; omega
      have HF := Lib.hid (show true = labB n i from (decide_eq_true ⟨h, h2⟩).symm)
      go_enter Try.func64, Try.ntmps64
      go_wp2_with fail
      refine (rank_f _ n c _).mono ?_
      rintro e w1 ⟨rfl, hb1⟩
      have HB := Lib.hid ((below_alloc w (.cells #[.slice a n c] 28)).trans (hb1.mono (by simp)))
      clear hb1
      go_wp2_with fail
      go_ret
      exact ⟨ret_bool HF.out, HB.out⟩
    · have hd2 : decide (i < (n : Int)) = false := by simp; omega
      have HF := Lib.hid (show false = labB n i from (decide_eq_false (fun c => h2 c.2)).symm)
      go_enter Try.func64, Try.ntmps64
      go_wp2_with fail
      refine (rank_f _ n c _).mono ?_
      rintro e w1 ⟨rfl, hb1⟩
      have HB := Lib.hid ((below_alloc w (.cells #[.slice a n c] 28)).trans (hb1.mono (by simp)))
      clear hb1
      go_wp2_with fail
      go_ret
      exact ⟨ret_bool HF.out, HB.out⟩
  · have hd : decide (0 ≤ i) = false := by simp; omega
    have HF := Lib.hid (show false = labB n i from (decide_eq_false (fun c => h c.1)).symm)
    go_enter Try.func64, Try.ntmps64
    go_wp2_with fail
    go_ret
    exact ⟨ret_bool HF.out, below_alloc _ _⟩
theorem l03Label_f (a : Option Addr) (n c : Nat) (i : Int) (w : World) (hn : n ≤ 1048576) : Calls Try.prog 61 #[.agg #[.slice a n c], .int .i64 i] w fun e w' => e = .returned (.bool (labB n i)) ∧ Below w.heap.size w w' := by
  have HI := Lib.hid (fun u => l01In_any i 0 ((n : Int) - 1) u)
  rw [lab_in] at HI
  have hw : IntKind.i64.wrap ((n : Int) - 1) = (n : Int) - 1 := IntWalk.i64_in _ (by omega)
  go_enter Try.func61, Try.ntmps61
  go_wp2_with fail
  refine (HI.out _).mono ?_
  rintro e w1 ⟨rfl, rfl⟩
  go_wp2_with fail
  go_ret
  exact ⟨rfl, below_alloc _ _⟩
theorem implPow_f (a : Option Addr) (n c : Nat) (M : Nat → Nat) (L : Nat → Nat → Nat) (f : Nat → Nat → Nat → Int) (i k : Int) (w : World) (h : RdT w a n M L f) (hn : n ≤ 1048576) (hM : ∀ i, i < n → M i ≤ 1048576) (hL : ∀ i, i < n → ∀ j, j < M i → L i j ≤ 1048576) (_ : (Lit.int .i64 i).wf = true) (_ : (Lit.int .i64 k).wf = true) :
    Calls Try.prog 25 #[.agg #[.slice a n c], .int .i64 i, .int .i64 k] w (RowRes w (nRg (ringB n M L f && (labB n i && expB k) && okP n f i.toNat k.toNat) n) (pwZ n f i.toNat k.toNat) (cPow (ringB n M L f) (labB n i && expB k) (okP n f i.toNat k.toNat))) := by
  have HI := Lib.hid (fun u (hu : Below w.heap.size w u) => implIsRing_f a n c M L f u (h.below hu (Nat.le_refl _)) hn hM hL)
  clear hM hL
  cases hr : ringB n M L f
  · rw [hr] at HI
    clear h hr
    go_enter Try.func25, Try.ntmps25
    go_wp2_with fail
    refine (HI.out _ (below_alloc _ _)).mono ?_
    rintro e w1 ⟨rfl, hb⟩
    have HB := Lib.hid ((below_alloc w (.cells #[.slice a n c] 28)).trans (hb.mono (by simp)))
    clear hb
    go_wp2_with fail
    go_ret2
    exact rowRes_none rfl rfl HB.out
  · obtain ⟨h0, h16, hf, hd, b, off, B, O, C, B2, O2, C2, rfl, hat⟩ := ring_open h hr
    rw [hr] at HI
    have start : ∀ (P : Bool), labB n i = P → Hid (∀ u, Calls Try.prog 64 #[.agg #[.slice (some ⟨b, off, none⟩) n c], .int .i64 i] u fun e w' => e = .returned (.bool P) ∧ Below u.heap.size u w') := fun P hP => Lib.hid fun u => by rw [← hP]; exact hasLabel_f _ n c i u
    by_cases hlab : 0 ≤ i ∧ i < n
    · have hl : labB n i = true := decide_eq_true hlab
      have HL := start true hl
      by_cases hk : 0 ≤ k ∧ k ≤ 40
      · have hke : expB k = true := decide_eq_true hk
        obtain ⟨i', rfl⟩ : ∃ i' : Nat, i = i' := ⟨i.toNat, by omega⟩
        obtain ⟨k', rfl⟩ : ∃ k' : Nat, k = k' := ⟨k.toNat, by omega⟩
        rw [hl, hke]
        have HA := Lib.hid (fun u (hu : Below w.heap.size w u) => power_f b off n c B O C B2 O2 C2 f i' k' u (hat.below hu) h16 h0 (by omega) hf (by omega))
        have hd1 : decide ((k' : Int) < 0) = false := by simp
        have hd2 : decide (40 < (k' : Int)) = false := by simp; omega
        clear h hr hat hf hd start hl hke hlab hk
        go_enter Try.func25, Try.ntmps25
        go_wp2_with fail
        refine (HI.out _ (below_alloc _ _)).mono ?_
        rintro e w1 ⟨rfl, hb⟩
        have HB := Lib.hid ((below_alloc w (.cells #[.slice (some ⟨b, off, none⟩) n c] 28)).trans (hb.mono (by simp)))
        have hsz : w.heap.size < w1.heap.size := by have := hb.size; simp at this; omega
        have e0 : w1.cell? ⟨w.heap.size, 0, none⟩ = some (.slice (some ⟨b, off, none⟩) n c) := by
          rw [hb.cell (p := ⟨w.heap.size, 0, none⟩) (by simp)]; exact cell_box _ _ _
        have E0 := Lib.hid e0
        clear hb
        go_wp2_with fail
        clear e0
        refine (HL.out _).mono ?_
        rintro e w2 ⟨rfl, hb⟩
        have HB2 := Lib.hid (HB.out.trans (hb.mono HB.out.size))
        have e0 : w2.cell? ⟨w.heap.size, 0, none⟩ = some (.slice (some ⟨b, off, none⟩) n c) := by
          rw [hb.cell (p := ⟨w.heap.size, 0, none⟩) hsz]; exact E0.out
        clear hb
        go_wp2_with fail
        clear e0
        refine (HA.out _ HB2.out).mono ?_
        intro e w3 hres
        rcases hres with ⟨hok, g, rfl, hg, hrow, hb3⟩ | ⟨hok, rfl, hb3⟩
        · have HO := Lib.hid (show okP n f ((i' : Int).toNat) ((k' : Int).toNat) = true by simpa using hok)
          have HB3 := Lib.hid (HB2.out.trans (hb3.mono HB2.out.size))
          have HG := Lib.hid (show w.heap.size ≤ g from Nat.le_trans HB2.out.size hg)
          have HQ := Lib.hid hrow
          clear hok hb3 hg hrow
          go_wp2_with fail
          go_ret2
          rw [HO.out]
          exact ⟨some ⟨g, 0, none⟩, n, rfl, Or.inr ⟨g, rfl, HG.out, HQ.out⟩, HB3.out⟩
        · have HO := Lib.hid (show okP n f ((i' : Int).toNat) ((k' : Int).toNat) = false by simpa using hok)
          have HB3 := Lib.hid (HB2.out.trans (hb3.mono HB2.out.size))
          clear hok hb3
          go_wp2_with fail
          go_ret2
          rw [HO.out]
          exact rowRes_none rfl rfl HB3.out
      · have hke : expB k = false := decide_eq_false hk
        rw [hl, hke]
        clear h hr hat hf hd start hl hke
        by_cases hk0 : k < 0
        · have hd1 : decide (k < 0) = true := by simp; omega
          clear hk hlab
          go_enter Try.func25, Try.ntmps25
          go_wp2_with fail
          refine (HI.out _ (below_alloc _ _)).mono ?_
          rintro e w1 ⟨rfl, hb⟩
          have HB := Lib.hid ((below_alloc w (.cells #[.slice (some ⟨b, off, none⟩) n c] 28)).trans (hb.mono (by simp)))
          have e0 : w1.cell? ⟨w.heap.size, 0, none⟩ = some (.slice (some ⟨b, off, none⟩) n c) := by
            rw [hb.cell (p := ⟨w.heap.size, 0, none⟩) (by simp)]; exact cell_box _ _ _
          clear hb
          go_wp2_with fail
          clear e0
          refine (HL.out _).mono ?_
          rintro e w2 ⟨rfl, hb⟩
          have HB2 := Lib.hid (HB.out.trans (hb.mono HB.out.size))
          clear hb
          go_wp2_with fail
          go_ret2
          exact rowRes_none rfl rfl HB2.out
        · have hd1 : decide (k < 0) = false := by simp; omega
          have hd2 : decide (40 < k) = true := by simp; omega
          clear hk hlab
          go_enter Try.func25, Try.ntmps25
          go_wp2_with fail
          refine (HI.out _ (below_alloc _ _)).mono ?_
          rintro e w1 ⟨rfl, hb⟩
          have HB := Lib.hid ((below_alloc w (.cells #[.slice (some ⟨b, off, none⟩) n c] 28)).trans (hb.mono (by simp)))
          have e0 : w1.cell? ⟨w.heap.size, 0, none⟩ = some (.slice (some ⟨b, off, none⟩) n c) := by
            rw [hb.cell (p := ⟨w.heap.size, 0, none⟩) (by simp)]; exact cell_box _ _ _
          clear hb
          go_wp2_with fail
          clear e0
          refine (HL.out _).mono ?_
          rintro e w2 ⟨rfl, hb⟩
          have HB2 := Lib.hid (HB.out.trans (hb.mono HB.out.size))
          clear hb
          go_wp2_with fail
          go_ret2
          exact rowRes_none rfl rfl HB2.out
    · have hl : labB n i = false := decide_eq_false hlab
      have HL := start false hl
      rw [hl]
      clear h hr hat hf hd start hl hlab
      go_enter Try.func25, Try.ntmps25
      go_wp2_with fail
      refine (HI.out _ (below_alloc _ _)).mono ?_
      rintro e w1 ⟨rfl, hb⟩
      have HB := Lib.hid ((below_alloc w (.cells #[.slice (some ⟨b, off, none⟩) n c] 28)).trans (hb.mono (by simp)))
      have e0 : w1.cell? ⟨w.heap.size, 0, none⟩ = some (.slice (some ⟨b, off, none⟩) n c) := by
        rw [hb.cell (p := ⟨w.heap.size, 0, none⟩) (by simp)]; exact cell_box _ _ _
      clear hb
      go_wp2_with fail
      clear e0
      refine (HL.out _).mono ?_
      rintro e w2 ⟨rfl, hb⟩
      have HB2 := Lib.hid (HB.out.trans (hb.mono HB.out.size))
      clear hb
      go_wp2_with fail
      go_ret2
      exact rowRes_none rfl rfl HB2.out
theorem implPow_f_rows (n : Nat) (M : Nat → Nat) (L : Nat → Nat → Nat) (f : Nat → Nat → Nat → Int) (i k : Int) : nRg (ringB n M L f && (labB n i && expB k) && okP n f i.toNat k.toNat) n ≤ 64 := by
  cases hr : ringB n M L f
  · simp [nRg]
  · have := (cub_num (ringB_t hr).1).2.1
    unfold nRg; split <;> omega
end Go.Proofs.Ytaffdoihmalilab
