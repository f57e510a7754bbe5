/- Even parts of rings of spins, of both. -/
import Derived.Test.YtfiilhoojoaflaaFtA
import Derived.Test.YtfiilhoojoaflaaFpE
import Derived.Test.YtfiilhoojoaflaaFrE
namespace Go.Proofs.Ytfiilhoojoaflaa
open Go.RowKit
set_option linter.unusedSimpArgs false
set_option linter.unusedVariables false
def evn_n (m : Nat) : Nat := m / 2 + 1
noncomputable def evn_F (m : Nat) : Nat → Nat → Nat → Int := spinF m 2
theorem evn_le (m : Nat) (h : 0 ≤ (m : Int) ∧ (m : Int) ≤ 31) : 1 ≤ evn_n m ∧ evn_n m ≤ 16 := by unfold evn_n; omega
theorem evn_bd (m i j t : Nat) : 0 ≤ evn_F m i j t ∧ evn_F m i j t ≤ 1000 := by have := spinF_bd m 2 i j t; unfold evn_F; omega
theorem evn_tab (m : Nat) (u : World) (h : 0 ≤ (m : Int) ∧ (m : Int) ≤ 31) : Calls Try.prog 59 #[.int .i64 m, .int .i64 ((2 : Nat) : Int)] u fun e w' => ∃ g cg, e = .returned (.slice (some ⟨g, 0, none⟩) (evn_n m) cg) ∧ CubO w' u.heap.size w'.heap.size g (evn_n m) (fun _ => evn_n m) (fun _ _ => evn_n m) (evn_F m) ∧ Below u.heap.size u w' :=
  l06Spin_f m 2 (m / 2 + 1) u (Or.inr rfl) rfl (by omega)
theorem evn_rank (m : Nat) (u : World) (h : 0 ≤ (m : Int) ∧ (m : Int) ≤ 31) : Calls Try.prog 136 #[.agg #[.int .i64 m]] u fun e w' => e = .returned (.int .i64 (evn_n m : Nat)) ∧ Below u.heap.size u w' := evenSpins_rank m u (by omega)
theorem evn_prod (m i j : Nat) (u : World) (h : 0 ≤ (m : Int) ∧ (m : Int) ≤ 31) (hi : i < evn_n m) (hj : j < evn_n m) : Calls Try.prog 135 #[.agg #[.int .i64 m], .int .i64 i, .int .i64 j] u (RowN u (evn_n m) (evn_F m i j)) :=
  evenSpins_product m i j u (by omega) hi hj
def evn_N (k : Int) : Nat := if rgC 0 31 k = 0 then evn_n k.toNat else 1
noncomputable def evn_T (k : Int) : Nat → Nat → Nat → Int := evn_F k.toNat
theorem evn_NT (m : Nat) (h : 0 ≤ (m : Int) ∧ (m : Int) ≤ 31) : evn_N m = evn_n m ∧ evn_T m = evn_F m := by
  refine ⟨?_, ?_⟩
  · unfold evn_N; rw [if_pos (rgC_in h)]; simp
  · unfold evn_T; simp
theorem evn_NB (k : Int) : evn_N k ≤ 16 := by
  unfold evn_N
  split
  · rename_i h
    have := rgC_zero h
    exact (evn_le k.toNat (by omega)).2
  · omega
set_option maxRecDepth 100000 in
set_option maxHeartbeats 1000000 in
theorem specEvenSpinRing_f (k : Int) (w : World) (hk : (Lit.int .i64 k).wf = true) : Calls Try.prog 35 #[.int .i64 k] w (RingRes w (rnkF (rgC 0 31 k) (evn_N k) (evn_T k)) (fun _ => evn_N k) (fun _ _ => evn_N k) (evn_T k) (codF (rgC 0 31 k) (evn_N k) (evn_T k))) := by
  have HC := Lib.hid (fun u (hu : Below w.heap.size w u) => l01In_any k 0 31 u)
  obtain ⟨W, hW, hW0, hWs, hKR⟩ := res_start w
  have HW0 := Lib.hid hW0
  have HWs := Lib.hid hWs
  have KR := Lib.hid hKR
  have HWe := Lib.hid hW
  clear hW hW0 hWs hKR
  by_cases hin : 0 ≤ k ∧ k ≤ 31
  · have hb : inB 0 31 k = true := by simp [inB]; omega
    rw [hb] at HC
    obtain ⟨m, rfl⟩ : ∃ m : Nat, k = m := ⟨k.toNat, by omega⟩
    obtain ⟨hN, hT⟩ := evn_NT m hin
    rw [hN, hT, rgC_in hin]
    have hl := evn_le m (by omega)
    have HF := Lib.hid (codF_yes (n := evn_n m) (f := evn_F m) (by omega) (cub_of hl.1 hl.2 (fun i j t _ _ _ => evn_bd m i j t)))
    have HT := Lib.hid (fun u (hu : Below w.heap.size w u) => evn_tab m u (by omega))
    clear hN hT hk hb
    generalize evn_F m = F at *
    generalize evn_n m = N at *
    go_enter Try.func35, Try.ntmps35
    go_wp2_with fail
    rw [← HWe.out]
    refine (HC.out _ HW0.out).mono ?_
    rintro e w1 ⟨rfl, rfl⟩
    go_wp2_with fail
    refine (HT.out _ HW0.out).mono ?_
    rintro e w2 ⟨g, cg, rfl, hcu, hb2⟩
    have HCu := Lib.hid hcu
    have HB2 := Lib.hid (HW0.out.trans (hb2.mono HW0.out.size))
    have hr := RowB.below KR.out hb2 (by rw [HWs.out]; omega)
    obtain ⟨e1, e2, e3⟩ := res_cells hr (.slice (some ⟨g, 0, none⟩) N cg)
    clear hcu hb2 hr
    go_wp2_with fail
    refine bodyPost_ret (v := .tuple #[.agg #[.slice (some ⟨g, 0, none⟩) N cg], .int .i64 0]) (by simp [results, Try.results35, go_sem, e3]) rfl ?_
    exact ringRes_put (Nat.le_refl _) (by rw [HWs.out]; omega) HCu.out (Nat.le_refl _) HB2.out HF.out.2 HF.out.1 _
  · have hb : inB 0 31 k = false := by simp [inB]; omega
    rw [hb] at HC
    rw [rgC_out hin]
    have HF := Lib.hid (codF_arg (code := 2) (n := evn_N k) (f := evn_T k) (by decide))
    clear hk hb
    go_enter Try.func35, Try.ntmps35
    go_wp2_with fail
    rw [← HWe.out]
    refine (HC.out _ HW0.out).mono ?_
    rintro e w1 ⟨rfl, rfl⟩
    obtain ⟨e1, e2, e3⟩ := res_cells KR.out (.slice none 0 0)
    go_wp2_with fail
    refine bodyPost_ret (v := .tuple #[.agg #[.slice none 0 0], .int .i64 2]) (by simp [results, Try.results35, go_sem, e3]) rfl ?_
    exact ringRes_none HF.out.2 HF.out.1.symm (HW0.out.setCell (Nat.le_refl _) _)
set_option maxRecDepth 100000 in
set_option maxHeartbeats 1000000 in
theorem implEvenSpinRing_f (k : Int) (w : World) (hk : (Lit.int .i64 k).wf = true) : Calls Try.prog 36 #[.int .i64 k] w (RingRes w (rnkF (rgC 0 31 k) (evn_N k) (evn_T k)) (fun _ => evn_N k) (fun _ _ => evn_N k) (evn_T k) (codF (rgC 0 31 k) (evn_N k) (evn_T k))) := by
  have HRo := Lib.hid (fun u => rof_evenSpins (.agg #[.int .i64 k]) (rgC 0 31 k) (evn_N k) (evn_T k) u (fun u' _ => (argc_evenSpins k u')) (fun h u' _ => by
      have hin := rgC_zero h
      obtain ⟨m, rfl⟩ : ∃ m : Nat, k = m := ⟨k.toNat, by omega⟩
      rw [(evn_NT m hin).1]
      exact evn_rank m u' (by omega)) (fun h _ u' i j _ hi hj => by
      have hin := rgC_zero h
      obtain ⟨m, rfl⟩ : ∃ m : Nat, k = m := ⟨k.toNat, by omega⟩
      rw [(evn_NT m hin).1] at hi hj ⊢
      rw [(evn_NT m hin).2]
      exact evn_prod m i j u' (by omega) hi hj) (by have := evn_NB k; omega) (rgC_wf _ _ _))
  obtain ⟨W, hW, hW0, hWs, hKR⟩ := res_start w
  have HW0 := Lib.hid hW0
  have HWs := Lib.hid hWs
  have KR := Lib.hid hKR
  have HWe := Lib.hid hW
  clear hW hW0 hWs hKR hk
  generalize rnkF (rgC 0 31 k) (evn_N k) (evn_T k) = rk at *
  generalize codF (rgC 0 31 k) (evn_N k) (evn_T k) = cd at *
  go_enter Try.func36, Try.ntmps36
  go_wp2_with fail
  rw [← HWe.out]
  refine (HRo.out _).mono ?_
  rintro e w2 ⟨a, c, rfl, ho, hb2⟩
  have HOw := Lib.hid ho
  have HB2 := Lib.hid hb2
  have hr := RowB.below KR.out hb2 (by rw [HWs.out]; omega)
  obtain ⟨e1, e2, e3⟩ := res_cells hr (.slice a rk c)
  clear ho hb2 hr
  go_wp2_with fail
  refine bodyPost_ret (v := .tuple #[.agg #[.slice a rk c], .int .i64 cd]) (by simp [results, Try.results36, go_sem, e3]) rfl ?_
  exact ringRes_pass HW0.out (Nat.le_refl _) (by rw [HWs.out]; omega) HOw.out HB2.out _
theorem implEvenSpinRing_f_rows (k : Int) : rnkF (rgC 0 31 k) (evn_N k) (evn_T k) ≤ 64 := by
  have := (codF_size (code := rgC 0 31 k) (n := evn_N k) (f := evn_T k)).1; omega
theorem implEvenSpinRing_f_cols (k : Int) : ∀ i, i < rnkF (rgC 0 31 k) (evn_N k) (evn_T k) → evn_N k ≤ 64 := fun _ _ => by have := evn_NB k; omega
theorem implEvenSpinRing_f_deep (k : Int) : ∀ i, i < rnkF (rgC 0 31 k) (evn_N k) (evn_T k) → ∀ j, j < evn_N k → evn_N k ≤ 64 := fun _ _ _ _ => by have := evn_NB k; omega
end Go.Proofs.Ytfiilhoojoaflaa
