/- Families of rings (the program's): spins, their even parts, dihedral groups. -/
import Derived.Test.YtfiilhoojoaflaaFpC
namespace Go.Proofs.Ytfiilhoojoaflaa
open Go.RowKit
set_option linter.unusedSimpArgs false
set_option linter.unusedVariables false
theorem spT_set {st i j t x : Nat} (hx : x = (spL st i j + 2 * t) / st) (k : Nat) : (if k = x then (1 : Int) else spT st i j t k) = spT st i j (t + 1) k := by
  unfold spT
  by_cases h3 : k = x
  · rw [if_pos h3, if_pos ⟨t, by omega, by rw [h3, hx]⟩]
  · rw [if_neg h3]
    by_cases h4 : ∃ u, u < t ∧ k = (spL st i j + 2 * u) / st
    · rw [if_pos h4]
      obtain ⟨u, h5, h6⟩ := h4
      rw [if_pos ⟨u, by omega, h6⟩]
    · rw [if_neg h4, if_neg]
      rintro ⟨u, h5, h6⟩
      by_cases e : u = t
      · exact h3 (by rw [h6, e, hx])
      · exact h4 ⟨u, by omega, h6⟩
theorem spT_done {lev st i j t : Nat} (hin : ∀ u, u < t → spL st i j + 2 * u ≤ spH lev st i j) (hout : spH lev st i j < spL st i j + 2 * t) (k : Nat) : spT st i j t k = spinF lev st i j k := by
  unfold spT spinF
  by_cases h4 : ∃ u, u < t ∧ k = (spL st i j + 2 * u) / st
  · rw [if_pos h4]
    obtain ⟨u, h5, h6⟩ := h4
    rw [if_pos ⟨u, hin u h5, h6⟩]
  · rw [if_neg h4, if_neg]
    rintro ⟨u, h5, h6⟩
    exact h4 ⟨u, by omega, h6⟩
theorem spins_rank (k : Nat) (w : World) (hk : k ≤ 100) : Calls Try.prog 134 #[.agg #[.int .i64 k]] w fun e w' => e = .returned (.int .i64 (k + 1 : Nat)) ∧ Below w.heap.size w w' := by
  have h1 : IntKind.i64.wrap ((k : Int) + 1) = ((k + 1 : Nat) : Int) := by rw [IntWalk.i64_in _ (by omega)]; omega
  go_enter Try.func134, Try.ntmps134
  go_wp2_with fail
  go_ret
  exact ⟨rfl, below_alloc _ _⟩
theorem evenSpins_rank (k : Nat) (w : World) (hk : k ≤ 100) : Calls Try.prog 136 #[.agg #[.int .i64 k]] w fun e w' => e = .returned (.int .i64 (k / 2 + 1 : Nat)) ∧ Below w.heap.size w w' := by
  have h0 : (k : Int).tdiv 2 = ((k / 2 : Nat) : Int) := by rw [Int.tdiv_eq_ediv_of_nonneg (by omega)]; rfl
  have h2 := Nat.div_le_self k 2
  obtain ⟨q, hq⟩ : ∃ q, q = k / 2 := ⟨_, rfl⟩
  rw [← hq] at h0 h2 ⊢
  clear hq
  have h3 : IntKind.i64.wrap (q : Int) = (q : Int) := IntWalk.i64_in _ (by omega)
  have h1 : IntKind.i64.wrap ((q : Int) + 1) = ((q + 1 : Nat) : Int) := by rw [IntWalk.i64_in _ (by omega)]; omega
  go_enter Try.func136, Try.ntmps136
  go_wp2_with fail
  go_ret
  exact ⟨rfl, below_alloc _ _⟩
theorem dihedralGroup_rank (k : Nat) (w : World) (hk : k ≤ 100) : Calls Try.prog 121 #[.agg #[.int .i64 k]] w fun e w' => e = .returned (.int .i64 (2 * k : Nat)) ∧ Below w.heap.size w w' := by
  have h1 : IntKind.i64.wrap (2 * (k : Int)) = ((2 * k : Nat) : Int) := by rw [IntWalk.i64_in _ (by omega)]; omega
  go_enter Try.func121, Try.ntmps121
  go_wp2_with fail
  go_ret
  exact ⟨rfl, below_alloc _ _⟩
set_option maxHeartbeats 1000000 in
set_option maxRecDepth 100000 in
theorem spins_product (k i j : Nat) (w : World) (hk : k ≤ 31) (hi : i ≤ k) (hj : j ≤ k) : Calls Try.prog 133 #[.agg #[.int .i64 k], .int .i64 i, .int .i64 j] w fun e w' => ∃ g, e = .returned (.slice (some ⟨g, 0, none⟩) (k + 1 : Nat) (k + 1 : Nat)) ∧ w.heap.size ≤ g ∧ RowI w' 2 g (k + 1) (spinF k 1 i j) ∧ Below w.heap.size w w' := by
  have hmk := run_make_row' (P := Try.prog) 26 2 (.int .i64 0) 8 Try.underlying26 infoI64 rfl .i64 .i64 (k + 1) (by omega) (by omega)
  have HR := Lib.hid (fun u => spins_rank k u (by omega))
  have HLo := Lib.hid (show spL 1 i j = if i ≤ j then j - i else i - j from by unfold spL; simp only [Nat.mul_one])
  have HHv := Lib.hid (show spH k 1 i j = if i + j ≤ k then i + j else 2 * k - i - j from by unfold spH; simp only [Nat.mul_one])
  obtain ⟨lo, hlo⟩ : ∃ x, x = spL 1 i j := ⟨_, rfl⟩
  obtain ⟨hv, hhv⟩ : ∃ x, x = spH k 1 i j := ⟨_, rfl⟩
  rw [← hlo] at HLo
  rw [← hhv] at HHv
  have HLe := Lib.hid hlo
  have HHe := Lib.hid hhv
  clear hlo hhv
  obtain ⟨n, hn⟩ : ∃ n, n = k + 1 := ⟨_, rfl⟩
  rw [← hn] at hmk HR ⊢
  obtain ⟨kk, hkk⟩ : ∃ x, x = k := ⟨_, rfl⟩
  rw [show spinF k 1 i j = spinF kk 1 i j by rw [hkk]]
  rw [← hkk] at HHe
  clear hkk
  have hn1 : k < n := by omega
  have hn2 : n ≤ 40 := by omega
  clear hn
  have p1 : IntKind.i64.wrap ((i : Int) - (j : Int)) = (i : Int) - (j : Int) := IntWalk.i64_in _ (by omega)
  have p2 : IntKind.i64.wrap ((j : Int) - (i : Int)) = (j : Int) - (i : Int) := IntWalk.i64_in _ (by omega)
  have p3 : max ((i : Int) - (j : Int)) ((j : Int) - (i : Int)) = (lo : Int) := by
    have := HLo.out
    rw [Int.max_def]
    split at this <;> split <;> omega
  have p4 : IntKind.i64.wrap ((i : Int) + (j : Int)) = (i : Int) + (j : Int) := IntWalk.i64_in _ (by omega)
  have p5 : IntKind.i64.wrap (2 * (k : Int)) = 2 * (k : Int) := IntWalk.i64_in _ (by omega)
  have p6 : IntKind.i64.wrap (2 * (k : Int) - (i : Int)) = 2 * (k : Int) - (i : Int) := IntWalk.i64_in _ (by omega)
  have p7 : IntKind.i64.wrap (2 * (k : Int) - (i : Int) - (j : Int)) = 2 * (k : Int) - (i : Int) - (j : Int) := IntWalk.i64_in _ (by omega)
  have hvl : hv ≤ k := by have := HHv.out; split at this <;> omega
  have p8 : min ((i : Int) + (j : Int)) (2 * (k : Int) - (i : Int) - (j : Int)) = (hv : Int) := by
    have := HHv.out
    rw [Int.min_def]
    split at this <;> split <;> omega
  have HB0 := Lib.hid (below_alloc w (.cells #[.agg #[.int .i64 k]] 70))
  go_enter Try.func133, Try.ntmps133
  go_wp2_with fail
  refine (HR.out _).mono ?_
  rintro e w1 ⟨rfl, hb1⟩
  have HB1 := Lib.hid ((below_alloc w _).trans (hb1.mono (by simp)))
  have KW := Lib.hid ((hb1.cell (p := ⟨w.heap.size, 0, none⟩) (by simp)).trans (cell_box _ _ _))
  have HL1 := Lib.hid (show w.heap.size + 1 ≤ w1.heap.size by have := hb1.size; simpa using this)
  have HRw := Lib.hid (show RowI (w1.alloc (.cells (madeCells #[.int .i64 0] n) 2)) 2 w1.heap.size n (fun _ => 0) from (RowB_of_rowIs (World.rowIs_made w1 (.int .i64 0) n 2)))
  clear hb1
  go_wp2_with fail
  go_loopw [8] (fun x wr => ∃ t : Nat, x = .int .i64 ((lo + 2 * t : Nat) : Int) ∧ (∀ u, u < t → lo + 2 * u ≤ hv) ∧ lo + 2 * t ≤ hv + 2 + lo ∧ RowI wr 2 w1.heap.size n (spT 1 i j t) ∧ Below w1.heap.size w1 wr) (fun x _ => hv + 2 - (intOf x).toNat)
  case atStart => exact ⟨0, rfl, fun u hu => absurd hu (by omega), by omega, HRw.out.congr fun k _ => by rw [spT_zero], below_alloc _ _⟩
  case round =>
    obtain ⟨t, rfl, hall, htb, hrw, hbw⟩ := hrel
    have HRr := Lib.hid hrw
    have HBw := Lib.hid hbw
    have HAll := Lib.hid hall
    have kw := (hbw.cell (p := ⟨w.heap.size, 0, none⟩) (by have := HL1.out; show w.heap.size < _; omega)).trans KW.out
    clear hrw hbw hall HRw
    obtain ⟨c, hce⟩ : ∃ c, c = lo + 2 * t := ⟨_, rfl⟩
    rw [← hce]
    have HCe := Lib.hid hce
    by_cases hle : c ≤ hv
    · have hcn : c < n := by omega
      have e1 := RowB.cell HRr.out hcn
      have e2 := RowB.frozen HRr.out c
      have HS := Lib.hid ((HRr.out.set c 1).congr (fun k _ => by rw [spT_set (x := c) (by rw [Nat.div_one, HCe.out, HLe.out])]))
      have HB5 := Lib.hid (HBw.out.setCell (p := ⟨w1.heap.size, c, none⟩) (Nat.le_refl _) (.int .i64 1))
      have HAll2 := Lib.hid (show ∀ u, u < t + 1 → lo + 2 * u ≤ hv from fun u hu => by
        by_cases e : u = t
        · rw [e, ← HCe.out]; exact hle
        · exact HAll.out u (by omega))
      have r1 : ((c : Int) + 2) = ((lo + 2 * (t + 1) : Nat) : Int) := by rw [HCe.out]; omega
      have r2 : IntKind.i64.wrap ((c : Int) + 2) = ((lo + 2 * (t + 1) : Nat) : Int) := by rw [← r1]; exact IntWalk.i64_in _ (by omega)
      have HMe := Lib.hid (show hv + 2 - (lo + 2 * (t + 1)) < hv + 2 - c by rw [HCe.out] at hle ⊢; omega)
      have HTb := Lib.hid (show lo + 2 * (t + 1) ≤ hv + 2 + lo by rw [HCe.out] at hle; omega)
      clear r1 htb hce
      go_wp2_with fail
      exact ⟨⟨t + 1, rfl, HAll2.out, HTb.out, HS.out, HB5.out⟩, by have := HMe.out; simp [intOf]; omega⟩
    · have HF := Lib.hid (HRr.out.congr (fun k _ => by rw [spT_done (lev := kk) (t := t) (fun u hu => by rw [← HLe.out, ← HHe.out]; exact HAll.out u hu) (by rw [← HLe.out, ← HHe.out, ← hce]; omega)]))
      clear hce htb
      go_wp2_with fail
      go_ret
      exact ⟨_, rfl, HB1.out.size, HF.out, HB1.out.trans (HBw.out.mono HB1.out.size)⟩
end Go.Proofs.Ytfiilhoojoaflaa
