/- Families of rings (the program's): even parts of spin rings and dihedral groups, their products; rings of spins and of dihedral groups of both. -/
import Derived.Test.YtfiilhoojoaflaaFpD
namespace Go.Proofs.Ytfiilhoojoaflaa
open Go.RowKit
set_option linter.unusedSimpArgs false
set_option linter.unusedVariables false
set_option maxRecDepth 100000 in
set_option maxHeartbeats 1000000 in
theorem evenSpins_product (k i j : Nat) (w : World) (hk : k ≤ 31) (hi : i < k / 2 + 1) (hj : j < k / 2 + 1) : Calls Try.prog 135 #[.agg #[.int .i64 k], .int .i64 i, .int .i64 j] w (RowN w (k / 2 + 1) (spinF k 2 i j)) := by
  have h2 := Nat.mul_div_le k 2
  have HQ := Lib.hid (fun u => spins_product k (2 * i) (2 * j) u hk (by omega) (by omega))
  have HR := Lib.hid (fun u => evenSpins_rank k u (by omega))
  have HE := Lib.hid (fun t => even_spin (lev := k) (i := i) (j := j) (k := t))
  obtain ⟨n, hn⟩ : ∃ n, n = k / 2 + 1 := ⟨_, rfl⟩
  rw [← hn] at HR hi hj ⊢
  have hn1 : 2 * n ≤ k + 2 := by omega
  have hn2 : n ≤ 20 := by omega
  clear hn h2
  have hmk := run_make_row' (P := Try.prog) 26 2 (.int .i64 0) 8 Try.underlying26 infoI64 rfl .i64 .i64 n (by omega) (by omega)
  have m1 : IntKind.i64.wrap (2 * (i : Int)) = ((2 * i : Nat) : Int) := by rw [IntWalk.i64_in _ (by omega)]; omega
  have m2 : IntKind.i64.wrap (2 * (j : Int)) = ((2 * j : Nat) : Int) := by rw [IntWalk.i64_in _ (by omega)]; omega
  obtain ⟨K1, hK1⟩ : ∃ x, x = k + 1 := ⟨_, rfl⟩
  rw [← hK1] at HQ
  have hK : 2 * n ≤ K1 + 1 := by omega
  clear hK1
  go_enter Try.func135, Try.ntmps135
  go_wp2_with fail
  refine (HR.out _).mono ?_
  rintro e w1 ⟨rfl, hb1⟩
  have HB1 := Lib.hid ((below_alloc w _).trans (hb1.mono (by simp)))
  have KW := Lib.hid ((hb1.cell (p := ⟨w.heap.size, 0, none⟩) (by simp)).trans (cell_box _ _ _))
  have HL1 := Lib.hid (show w.heap.size + 1 ≤ w1.heap.size by have := hb1.size; simpa using this)
  have HRw := Lib.hid (show RowI (w1.alloc (.cells (madeCells #[.int .i64 0] n) 2)) 2 w1.heap.size n (fun _ => 0) from (RowB_of_rowIs (World.rowIs_made w1 (.int .i64 0) n 2)))
  have HBm := Lib.hid (below_alloc w1 (.cells (madeCells #[.int .i64 0] n) 2))
  clear hb1
  have kw := (HBm.out.cell (p := ⟨w.heap.size, 0, none⟩) (by have := HL1.out; show w.heap.size < _; omega)).trans KW.out
  go_wp2_with fail
  refine (HQ.out _).mono ?_
  rintro e w2 ⟨g, rfl, hg, hrg, hb2⟩
  have HB2 := Lib.hid (HBm.out.trans (hb2.mono HBm.out.size))
  have HRw2 := Lib.hid (RowI.below HRw.out hb2 (by simp))
  have HG := Lib.hid (show w1.heap.size + 1 ≤ g by simpa using hg)
  have HRg := Lib.hid hrg
  clear hg hrg hb2 HRw kw
  go_wp2_with fail
  go_loopw [23] (fun x wr => ∃ t : Nat, t ≤ n ∧ x = .int .i64 t ∧ RowI wr 2 w1.heap.size n (fun k' => if k' < t then spinF k 2 i j k' else 0) ∧ RowI wr 2 g K1 (spinF k 1 (2 * i) (2 * j)) ∧ Below w1.heap.size w1 wr) (fun x _ => n - (intOf x).toNat)
  case atStart => exact ⟨0, by omega, rfl, HRw2.out.congr fun k' _ => by rw [if_neg (by omega)], HRg.out, HB2.out⟩
  case round =>
    clear HRw2 HRg
    obtain ⟨t, ht, rfl, hra, hrg, hbw⟩ := hrel
    have HRa := Lib.hid hra
    have HRg := Lib.hid hrg
    have HBw := Lib.hid hbw
    clear hra hrg hbw
    by_cases htn : t < n
    · have e1 := RowB.cell HRg.out (show 2 * t < K1 by omega)
      rw [HE.out t] at e1
      have e2 := RowB.cell HRa.out htn
      have e3 := RowB.frozen HRa.out t
      have m3 : IntKind.i64.wrap (2 * (t : Int)) = ((2 * t : Nat) : Int) := by rw [IntWalk.i64_in _ (by omega)]; omega
      obtain ⟨v, hv⟩ : ∃ v, v = spinF k 2 i j t := ⟨_, rfl⟩
      rw [← hv] at e1
      have HS := Lib.hid ((HRa.out.set t v).congr (g := fun k' => if k' < t + 1 then spinF k 2 i j k' else 0) (fun k' _ => by
        by_cases e : k' = t
        · rw [if_pos e, if_pos (by omega), e, hv]
        · rw [if_neg e]
          by_cases e2 : k' < t
          · rw [if_pos e2, if_pos (by omega)]
          · rw [if_neg e2, if_neg (by omega)]))
      have HS2 := Lib.hid (show RowI (wr.setCell ⟨w1.heap.size, t, none⟩ (.int .i64 v)) 2 g K1 (spinF k 1 (2 * i) (2 * j)) from RowB.setOther HRg.out (a := ⟨w1.heap.size, t, none⟩) (by have := HG.out; show g ≠ w1.heap.size; omega) _)
      have HB5 := Lib.hid (HBw.out.setCell (p := ⟨w1.heap.size, t, none⟩) (Nat.le_refl _) (.int .i64 v))
      clear hv
      go_wp2_with fail
      refine ⟨⟨t + 1, ?_, ?_, ?_, ?_, ?_⟩, ?_⟩
      · omega
      · go_num
      · exact HS.out
      · exact HS2.out
      · exact HB5.out
      · simp [intOf]; omega
    · obtain rfl : t = n := by omega
      have HF := Lib.hid (HRa.out.congr (g := spinF k 2 i j) (fun k' hk' => by rw [if_pos hk']))
      go_wp2_with fail
      go_ret
      refine ⟨w1.heap.size, t, rfl, Nat.le_refl _, ?_, HB1.out.size, ?_, ?_⟩
      · unfold maxLen; omega
      · exact HF.out
      · exact HB1.out.trans (HBw.out.mono HB1.out.size)
end Go.Proofs.Ytfiilhoojoaflaa
