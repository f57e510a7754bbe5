/- Rings of dihedral groups, of both. -/
import Derived.Test.YtfiilhoojoaflaaFtA
import Derived.Test.YtfiilhoojoaflaaFpF
import Derived.Test.YtfiilhoojoaflaaFrD
namespace Go.Proofs.Ytfiilhoojoaflaa
open Go.RowKit
set_option linter.unusedSimpArgs false
set_option linter.unusedVariables false
def dhg_n (m : Nat) : Nat := 2 * m
def dhg_F (m : Nat) : Nat → Nat → Nat → Int := dhF m
theorem dhg_le (m : Nat) (h : 1 ≤ (m : Int) ∧ (m : Int) ≤ 8) : 1 ≤ dhg_n m ∧ dhg_n m ≤ 16 := by unfold dhg_n; omega
theorem dhg_bd (m i j t : Nat) : 0 ≤ dhg_F m i j t ∧ dhg_F m i j t ≤ 1000 := by have := dhF_bd m i j t; unfold dhg_F; omega
theorem dhg_tab (m : Nat) (u : World) (h : 1 ≤ (m : Int) ∧ (m : Int) ≤ 8) : Calls Try.prog 56 #[.int .i64 m] u fun e w' => ∃ g cg, e = .returned (.slice (some ⟨g, 0, none⟩) (dhg_n m) cg) ∧ CubO w' u.heap.size w'.heap.size g (dhg_n m) (fun _ => dhg_n m) (fun _ _ => dhg_n m) (dhg_F m) ∧ Below u.heap.size u w' :=
  l06DihedralGroup_f m u (by omega) (by omega)
theorem dhg_rank (m : Nat) (u : World) (h : 1 ≤ (m : Int) ∧ (m : Int) ≤ 8) : Calls Try.prog 121 #[.agg #[.int .i64 m]] u fun e w' => e = .returned (.int .i64 (dhg_n m : Nat)) ∧ Below u.heap.size u w' := dihedralGroup_rank m u (by omega)
theorem dhg_prod (m i j : Nat) (u : World) (h : 1 ≤ (m : Int) ∧ (m : Int) ≤ 8) (hi : i < dhg_n m) (hj : j < dhg_n m) : Calls Try.prog 120 #[.agg #[.int .i64 m], .int .i64 i, .int .i64 j] u (RowN u (dhg_n m) (dhg_F m i j)) :=
  dihedralGroup_product m i j u (by omega) hi hj
def dhg_N (k : Int) : Nat := if rgC 1 8 k = 0 then dhg_n k.toNat else 1
noncomputable def dhg_T (k : Int) : Nat → Nat → Nat → Int := dhg_F k.toNat
theorem dhg_NT (m : Nat) (h : 1 ≤ (m : Int) ∧ (m : Int) ≤ 8) : dhg_N m = dhg_n m ∧ dhg_T m = dhg_F m := by
  refine ⟨?_, ?_⟩
  · unfold dhg_N; rw [if_pos (rgC_in h)]; simp
  · unfold dhg_T; simp
theorem dhg_NB (k : Int) : dhg_N k ≤ 16 := by
  unfold dhg_N
  split
  · rename_i h
    have := rgC_zero h
    exact (dhg_le k.toNat (by omega)).2
  · omega
set_option maxRecDepth 100000 in
set_option maxHeartbeats 1000000 in
theorem specDihedralGroupRing_f (k : Int) (w : World) (hk : (Lit.int .i64 k).wf = true) : Calls Try.prog 25 #[.int .i64 k] w (RingRes w (rnkF (rgC 1 8 k) (dhg_N k) (dhg_T k)) (fun _ => dhg_N k) (fun _ _ => dhg_N k) (dhg_T k) (codF (rgC 1 8 k) (dhg_N k) (dhg_T k))) := by
  have HC := Lib.hid (fun u (hu : Below w.heap.size w u) => l01In_any k 1 8 u)
  obtain ⟨W, hW, hW0, hWs, hKR⟩ := res_start w
  have HW0 := Lib.hid hW0
  have HWs := Lib.hid hWs
  have KR := Lib.hid hKR
  have HWe := Lib.hid hW
  clear hW hW0 hWs hKR
  by_cases hin : 1 ≤ k ∧ k ≤ 8
  · have hb : inB 1 8 k = true := by simp [inB]; omega
    rw [hb] at HC
    obtain ⟨m, rfl⟩ : ∃ m : Nat, k = m := ⟨k.toNat, by omega⟩
    obtain ⟨hN, hT⟩ := dhg_NT m hin
    rw [hN, hT, rgC_in hin]
    have hl := dhg_le m (by omega)
    have HF := Lib.hid (codF_yes (n := dhg_n m) (f := dhg_F m) (by omega) (cub_of hl.1 hl.2 (fun i j t _ _ _ => dhg_bd m i j t)))
    have HT := Lib.hid (fun u (hu : Below w.heap.size w u) => dhg_tab m u (by omega))
    clear hN hT hk hb
    generalize dhg_F m = F at *
    generalize dhg_n m = N at *
    go_enter Try.func25, Try.ntmps25
    go_wp2_with fail
    rw [← HWe.out]
    refine (HC.out _ HW0.out).mono ?_
    rintro e w1 ⟨rfl, rfl⟩
    go_wp2_with fail
    refine (HT.out _ HW0.out).mono ?_
    rintro e w2 ⟨g, cg, rfl, hcu, hb2⟩
    have HCu := Lib.hid hcu
    have HB2 := Lib.hid (HW0.out.trans (hb2.mono HW0.out.size))
    have hr := RowB.below KR.out hb2 (by rw [HWs.out]; omega)
    obtain ⟨e1, e2, e3⟩ := res_cells hr (.slice (some ⟨g, 0, none⟩) N cg)
    clear hcu hb2 hr
    go_wp2_with fail
    refine bodyPost_ret (v := .tuple #[.agg #[.slice (some ⟨g, 0, none⟩) N cg], .int .i64 0]) (by simp [results, Try.results25, go_sem, e3]) rfl ?_
    exact ringRes_put (Nat.le_refl _) (by rw [HWs.out]; omega) HCu.out (Nat.le_refl _) HB2.out HF.out.2 HF.out.1 _
  · have hb : inB 1 8 k = false := by simp [inB]; omega
    rw [hb] at HC
    rw [rgC_out hin]
    have HF := Lib.hid (codF_arg (code := 2) (n := dhg_N k) (f := dhg_T k) (by decide))
    clear hk hb
    go_enter Try.func25, Try.ntmps25
    go_wp2_with fail
    rw [← HWe.out]
    refine (HC.out _ HW0.out).mono ?_
    rintro e w1 ⟨rfl, rfl⟩
    obtain ⟨e1, e2, e3⟩ := res_cells KR.out (.slice none 0 0)
    go_wp2_with fail
    refine bodyPost_ret (v := .tuple #[.agg #[.slice none 0 0], .int .i64 2]) (by simp [results, Try.results25, go_sem, e3]) rfl ?_
    exact ringRes_none HF.out.2 HF.out.1.symm (HW0.out.setCell (Nat.le_refl _) _)
set_option maxRecDepth 100000 in
set_option maxHeartbeats 1000000 in
theorem implDihedralGroupRing_f (k : Int) (w : World) (hk : (Lit.int .i64 k).wf = true) : Calls Try.prog 26 #[.int .i64 k] w (RingRes w (rnkF (rgC 1 8 k) (dhg_N k) (dhg_T k)) (fun _ => dhg_N k) (fun _ _ => dhg_N k) (dhg_T k) (codF (rgC 1 8 k) (dhg_N k) (dhg_T k))) := by
  have HRo := Lib.hid (fun u => rof_dihedralGroup (.agg #[.int .i64 k]) (rgC 1 8 k) (dhg_N k) (dhg_T k) u (fun u' _ => (argc_dihedralGroup k u')) (fun h u' _ => by
      have hin := rgC_zero h
      obtain ⟨m, rfl⟩ : ∃ m : Nat, k = m := ⟨k.toNat, by omega⟩
      rw [(dhg_NT m hin).1]
      exact dhg_rank m u' (by omega)) (fun h _ u' i j _ hi hj => by
      have hin := rgC_zero h
      obtain ⟨m, rfl⟩ : ∃ m : Nat, k = m := ⟨k.toNat, by omega⟩
      rw [(dhg_NT m hin).1] at hi hj ⊢
      rw [(dhg_NT m hin).2]
      exact dhg_prod m i j u' (by omega) hi hj) (by have := dhg_NB k; omega) (rgC_wf _ _ _))
  obtain ⟨W, hW, hW0, hWs, hKR⟩ := res_start w
  have HW0 := Lib.hid hW0
  have HWs := Lib.hid hWs
  have KR := Lib.hid hKR
  have HWe := Lib.hid hW
  clear hW hW0 hWs hKR hk
  generalize rnkF (rgC 1 8 k) (dhg_N k) (dhg_T k) = rk at *
  generalize codF (rgC 1 8 k) (dhg_N k) (dhg_T k) = cd at *
  go_enter Try.func26, Try.ntmps26
  go_wp2_with fail
  rw [← HWe.out]
  refine (HRo.out _).mono ?_
  rintro e w2 ⟨a, c, rfl, ho, hb2⟩
  have HOw := Lib.hid ho
  have HB2 := Lib.hid hb2
  have hr := RowB.below KR.out hb2 (by rw [HWs.out]; omega)
  obtain ⟨e1, e2, e3⟩ := res_cells hr (.slice a rk c)
  clear ho hb2 hr
  go_wp2_with fail
  refine bodyPost_ret (v := .tuple #[.agg #[.slice a rk c], .int .i64 cd]) (by simp [results, Try.results26, go_sem, e3]) rfl ?_
  exact ringRes_pass HW0.out (Nat.le_refl _) (by rw [HWs.out]; omega) HOw.out HB2.out _
theorem implDihedralGroupRing_f_rows (k : Int) : rnkF (rgC 1 8 k) (dhg_N k) (dhg_T k) ≤ 64 := by
  have := (codF_size (code := rgC 1 8 k) (n := dhg_N k) (f := dhg_T k)).1; omega
theorem implDihedralGroupRing_f_cols (k : Int) : ∀ i, i < rnkF (rgC 1 8 k) (dhg_N k) (dhg_T k) → dhg_N k ≤ 64 := fun _ _ => by have := dhg_NB k; omega
theorem implDihedralGroupRing_f_deep (k : Int) : ∀ i, i < rnkF (rgC 1 8 k) (dhg_N k) (dhg_T k) → ∀ j, j < dhg_N k → dhg_N k ≤ 64 := fun _ _ _ _ => by have := dhg_NB k; omega
end Go.Proofs.Ytfiilhoojoaflaa
