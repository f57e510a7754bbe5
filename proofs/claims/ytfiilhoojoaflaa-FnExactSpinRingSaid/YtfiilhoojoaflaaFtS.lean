/- Rings of spins, of both. -/
import Derived.Test.YtfiilhoojoaflaaFtA
import Derived.Test.YtfiilhoojoaflaaFpD
import Derived.Test.YtfiilhoojoaflaaFrS
namespace Go.Proofs.Ytfiilhoojoaflaa
open Go.RowKit
set_option linter.unusedSimpArgs false
set_option linter.unusedVariables false
def spn_n (m : Nat) : Nat := m + 1
noncomputable def spn_F (m : Nat) : Nat → Nat → Nat → Int := spinF m 1
theorem spn_le (m : Nat) (h : 0 ≤ (m : Int) ∧ (m : Int) ≤ 15) : 1 ≤ spn_n m ∧ spn_n m ≤ 16 := by unfold spn_n; omega
theorem spn_bd (m i j t : Nat) : 0 ≤ spn_F m i j t ∧ spn_F m i j t ≤ 1000 := by have := spinF_bd m 1 i j t; unfold spn_F; omega
theorem spn_tab (m : Nat) (u : World) (h : 0 ≤ (m : Int) ∧ (m : Int) ≤ 15) : Calls Try.prog 59 #[.int .i64 m, .int .i64 ((1 : Nat) : Int)] u fun e w' => ∃ g cg, e = .returned (.slice (some ⟨g, 0, none⟩) (spn_n m) cg) ∧ CubO w' u.heap.size w'.heap.size g (spn_n m) (fun _ => spn_n m) (fun _ _ => spn_n m) (spn_F m) ∧ Below u.heap.size u w' :=
  l06Spin_f m 1 (m + 1) u (Or.inl rfl) (by rw [Nat.div_one]) (by omega)
theorem spn_rank (m : Nat) (u : World) (h : 0 ≤ (m : Int) ∧ (m : Int) ≤ 15) : Calls Try.prog 134 #[.agg #[.int .i64 m]] u fun e w' => e = .returned (.int .i64 (spn_n m : Nat)) ∧ Below u.heap.size u w' := spins_rank m u (by omega)
theorem spn_prod (m i j : Nat) (u : World) (h : 0 ≤ (m : Int) ∧ (m : Int) ≤ 15) (hi : i < spn_n m) (hj : j < spn_n m) : Calls Try.prog 133 #[.agg #[.int .i64 m], .int .i64 i, .int .i64 j] u (RowN u (spn_n m) (spn_F m i j)) :=
  (spins_product m i j u (by omega) (by unfold spn_n at hi; omega) (by unfold spn_n at hj; omega)).mono fun _ _ ⟨g, h1, h2, h3, h4⟩ => ⟨g, m + 1, h1, Nat.le_refl _, by unfold maxLen; omega, h2, h3, h4⟩
def spn_N (k : Int) : Nat := if rgC 0 15 k = 0 then spn_n k.toNat else 1
noncomputable def spn_T (k : Int) : Nat → Nat → Nat → Int := spn_F k.toNat
theorem spn_NT (m : Nat) (h : 0 ≤ (m : Int) ∧ (m : Int) ≤ 15) : spn_N m = spn_n m ∧ spn_T m = spn_F m := by
  refine ⟨?_, ?_⟩
  · unfold spn_N; rw [if_pos (rgC_in h)]; simp
  · unfold spn_T; simp
theorem spn_NB (k : Int) : spn_N k ≤ 16 := by
  unfold spn_N
  split
  · rename_i h
    have := rgC_zero h
    exact (spn_le k.toNat (by omega)).2
  · omega
set_option maxRecDepth 100000 in
set_option maxHeartbeats 1000000 in
theorem specSpinRing_f (k : Int) (w : World) (hk : (Lit.int .i64 k).wf = true) : Calls Try.prog 33 #[.int .i64 k] w (RingRes w (rnkF (rgC 0 15 k) (spn_N k) (spn_T k)) (fun _ => spn_N k) (fun _ _ => spn_N k) (spn_T k) (codF (rgC 0 15 k) (spn_N k) (spn_T k))) := by
  have HC := Lib.hid (fun u (hu : Below w.heap.size w u) => l01In_any k 0 15 u)
  obtain ⟨W, hW, hW0, hWs, hKR⟩ := res_start w
  have HW0 := Lib.hid hW0
  have HWs := Lib.hid hWs
  have KR := Lib.hid hKR
  have HWe := Lib.hid hW
  clear hW hW0 hWs hKR
  by_cases hin : 0 ≤ k ∧ k ≤ 15
  · have hb : inB 0 15 k = true := by simp [inB]; omega
    rw [hb] at HC
    obtain ⟨m, rfl⟩ : ∃ m : Nat, k = m := ⟨k.toNat, by omega⟩
    obtain ⟨hN, hT⟩ := spn_NT m hin
    rw [hN, hT, rgC_in hin]
    have hl := spn_le m (by omega)
    have HF := Lib.hid (codF_yes (n := spn_n m) (f := spn_F m) (by omega) (cub_of hl.1 hl.2 (fun i j t _ _ _ => spn_bd m i j t)))
    have HT := Lib.hid (fun u (hu : Below w.heap.size w u) => spn_tab m u (by omega))
    clear hN hT hk hb
    generalize spn_F m = F at *
    generalize spn_n m = N at *
    go_enter Try.func33, Try.ntmps33
    go_wp2_with fail
    rw [← HWe.out]
    refine (HC.out _ HW0.out).mono ?_
    rintro e w1 ⟨rfl, rfl⟩
    go_wp2_with fail
    refine (HT.out _ HW0.out).mono ?_
    rintro e w2 ⟨g, cg, rfl, hcu, hb2⟩
    have HCu := Lib.hid hcu
    have HB2 := Lib.hid (HW0.out.trans (hb2.mono HW0.out.size))
    have hr := RowB.below KR.out hb2 (by rw [HWs.out]; omega)
    obtain ⟨e1, e2, e3⟩ := res_cells hr (.slice (some ⟨g, 0, none⟩) N cg)
    clear hcu hb2 hr
    go_wp2_with fail
    refine bodyPost_ret (v := .tuple #[.agg #[.slice (some ⟨g, 0, none⟩) N cg], .int .i64 0]) (by simp [results, Try.results33, go_sem, e3]) rfl ?_
    exact ringRes_put (Nat.le_refl _) (by rw [HWs.out]; omega) HCu.out (Nat.le_refl _) HB2.out HF.out.2 HF.out.1 _
  · have hb : inB 0 15 k = false := by simp [inB]; omega
    rw [hb] at HC
    rw [rgC_out hin]
    have HF := Lib.hid (codF_arg (code := 2) (n := spn_N k) (f := spn_T k) (by decide))
    clear hk hb
    go_enter Try.func33, Try.ntmps33
    go_wp2_with fail
    rw [← HWe.out]
    refine (HC.out _ HW0.out).mono ?_
    rintro e w1 ⟨rfl, rfl⟩
    obtain ⟨e1, e2, e3⟩ := res_cells KR.out (.slice none 0 0)
    go_wp2_with fail
    refine bodyPost_ret (v := .tuple #[.agg #[.slice none 0 0], .int .i64 2]) (by simp [results, Try.results33, go_sem, e3]) rfl ?_
    exact ringRes_none HF.out.2 HF.out.1.symm (HW0.out.setCell (Nat.le_refl _) _)
set_option maxRecDepth 100000 in
set_option maxHeartbeats 1000000 in
theorem implSpinRing_f (k : Int) (w : World) (hk : (Lit.int .i64 k).wf = true) : Calls Try.prog 34 #[.int .i64 k] w (RingRes w (rnkF (rgC 0 15 k) (spn_N k) (spn_T k)) (fun _ => spn_N k) (fun _ _ => spn_N k) (spn_T k) (codF (rgC 0 15 k) (spn_N k) (spn_T k))) := by
  have HRo := Lib.hid (fun u => rof_spins (.agg #[.int .i64 k]) (rgC 0 15 k) (spn_N k) (spn_T k) u (fun u' _ => (argc_spins k u')) (fun h u' _ => by
      have hin := rgC_zero h
      obtain ⟨m, rfl⟩ : ∃ m : Nat, k = m := ⟨k.toNat, by omega⟩
      rw [(spn_NT m hin).1]
      exact spn_rank m u' (by omega)) (fun h _ u' i j _ hi hj => by
      have hin := rgC_zero h
      obtain ⟨m, rfl⟩ : ∃ m : Nat, k = m := ⟨k.toNat, by omega⟩
      rw [(spn_NT m hin).1] at hi hj ⊢
      rw [(spn_NT m hin).2]
      exact spn_prod m i j u' (by omega) hi hj) (by have := spn_NB k; omega) (rgC_wf _ _ _))
  obtain ⟨W, hW, hW0, hWs, hKR⟩ := res_start w
  have HW0 := Lib.hid hW0
  have HWs := Lib.hid hWs
  have KR := Lib.hid hKR
  have HWe := Lib.hid hW
  clear hW hW0 hWs hKR hk
  generalize rnkF (rgC 0 15 k) (spn_N k) (spn_T k) = rk at *
  generalize codF (rgC 0 15 k) (spn_N k) (spn_T k) = cd at *
  go_enter Try.func34, Try.ntmps34
  go_wp2_with fail
  rw [← HWe.out]
  refine (HRo.out _).mono ?_
  rintro e w2 ⟨a, c, rfl, ho, hb2⟩
  have HOw := Lib.hid ho
  have HB2 := Lib.hid hb2
  have hr := RowB.below KR.out hb2 (by rw [HWs.out]; omega)
  obtain ⟨e1, e2, e3⟩ := res_cells hr (.slice a rk c)
  clear ho hb2 hr
  go_wp2_with fail
  refine bodyPost_ret (v := .tuple #[.agg #[.slice a rk c], .int .i64 cd]) (by simp [results, Try.results34, go_sem, e3]) rfl ?_
  exact ringRes_pass HW0.out (Nat.le_refl _) (by rw [HWs.out]; omega) HOw.out HB2.out _
theorem implSpinRing_f_rows (k : Int) : rnkF (rgC 0 15 k) (spn_N k) (spn_T k) ≤ 64 := by
  have := (codF_size (code := rgC 0 15 k) (n := spn_N k) (f := spn_T k)).1; omega
theorem implSpinRing_f_cols (k : Int) : ∀ i, i < rnkF (rgC 0 15 k) (spn_N k) (spn_T k) → spn_N k ≤ 64 := fun _ _ => by have := spn_NB k; omega
theorem implSpinRing_f_deep (k : Int) : ∀ i, i < rnkF (rgC 0 15 k) (spn_N k) (spn_T k) → ∀ j, j < spn_N k → spn_N k ≤ 64 := fun _ _ _ _ => by have := spn_NB k; omega
end Go.Proofs.Ytfiilhoojoaflaa
