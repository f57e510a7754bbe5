/- Dihedral rings, of both. -/
import Derived.Test.YtmdmojklagmmiaaFtA
import Derived.Test.YtmdmojklagmmiaaDiS
import Derived.Test.YtmdmojklagmmiaaDiB
import Derived.Test.YtmdmojklagmmiaaFrH
namespace Go.Proofs.Ytmdmojklagmmiaa
open Go.RowKit
set_option linter.unusedSimpArgs false
set_option linter.unusedVariables false
def dhr_n (m : Nat) : Nat := dR m
def dhr_F (m : Nat) : Nat → Nat → Nat → Int := diF m
theorem dhr_le (m : Nat) (h : 1 ≤ (m : Int) ∧ (m : Int) ≤ 18) : 1 ≤ dhr_n m ∧ dhr_n m ≤ 16 := by
  unfold dhr_n dR
  rcases dL_cases m with ⟨_, e, _⟩ | ⟨_, e, _⟩ <;> omega
theorem dhr_bd (m i j t : Nat) : 0 ≤ dhr_F m i j t ∧ dhr_F m i j t ≤ 1000 := by have := diF_bd m i j t; unfold dhr_F; omega
theorem dhr_tab (m : Nat) (u : World) (h : 1 ≤ (m : Int) ∧ (m : Int) ≤ 18) : Calls Try.prog 39 #[.int .i64 m] u fun e w' => ∃ g cg, e = .returned (.slice (some ⟨g, 0, none⟩) (dhr_n m) cg) ∧ CubO w' u.heap.size w'.heap.size g (dhr_n m) (fun _ => dhr_n m) (fun _ _ => dhr_n m) (dhr_F m) ∧ Below u.heap.size u w' := by
  by_cases e : m % 2 = 0
  · exact l06Dihedral_even m u (by omega) (by omega) e
  · exact l06Dihedral_odd m u (by omega) (by omega) (by omega)
theorem dhr_rank (m : Nat) (u : World) (h : 1 ≤ (m : Int) ∧ (m : Int) ≤ 18) : Calls Try.prog 186 #[.agg #[.int .i64 m]] u fun e w' => e = .returned (.int .i64 (dhr_n m : Nat)) ∧ Below u.heap.size u w' := dih_rank m u (by omega) (by omega)
theorem dhr_prod (m i j : Nat) (u : World) (h : 1 ≤ (m : Int) ∧ (m : Int) ≤ 18) (hi : i < dhr_n m) (hj : j < dhr_n m) : Calls Try.prog 185 #[.agg #[.int .i64 m], .int .i64 i, .int .i64 j] u (RowN u (dhr_n m) (dhr_F m i j)) :=
  dihedral_product m i j u (by omega) (by omega) hi hj
def dhr_N (k : Int) : Nat := if rgC 1 18 k = 0 then dhr_n k.toNat else 1
noncomputable def dhr_T (k : Int) : Nat → Nat → Nat → Int := dhr_F k.toNat
theorem dhr_NT (m : Nat) (h : 1 ≤ (m : Int) ∧ (m : Int) ≤ 18) : dhr_N m = dhr_n m ∧ dhr_T m = dhr_F m := by
  refine ⟨?_, ?_⟩
  · unfold dhr_N; rw [if_pos (rgC_in h)]; simp
  · unfold dhr_T; simp
theorem dhr_NB (k : Int) : dhr_N k ≤ 16 := by
  unfold dhr_N
  split
  · rename_i h
    have := rgC_zero h
    exact (dhr_le k.toNat (by omega)).2
  · omega
set_option maxRecDepth 100000 in
set_option maxHeartbeats 1000000 in
theorem specDihedralRing_f (k : Int) (w : World) (hk : (Lit.int .i64 k).wf = true) : Calls Try.prog 19 #[.int .i64 k] w (RingRes w (rnkF (rgC 1 18 k) (dhr_N k) (dhr_T k)) (fun _ => dhr_N k) (fun _ _ => dhr_N k) (dhr_T k) (codF (rgC 1 18 k) (dhr_N k) (dhr_T k))) := by
  have HC := Lib.hid (fun u (hu : Below w.heap.size w u) => l01In_any k 1 18 u)
  obtain ⟨W, hW, hW0, hWs, hKR⟩ := res_start w
  have HW0 := Lib.hid hW0
  have HWs := Lib.hid hWs
  have KR := Lib.hid hKR
  have HWe := Lib.hid hW
  clear hW hW0 hWs hKR
  by_cases hin : 1 ≤ k ∧ k ≤ 18
  · have hb : inB 1 18 k = true := by simp [inB]; omega
    rw [hb] at HC
    obtain ⟨m, rfl⟩ : ∃ m : Nat, k = m := ⟨k.toNat, by omega⟩
    obtain ⟨hN, hT⟩ := dhr_NT m hin
    rw [hN, hT, rgC_in hin]
    have hl := dhr_le m (by omega)
    have HF := Lib.hid (codF_yes (n := dhr_n m) (f := dhr_F m) (by omega) (cub_of hl.1 hl.2 (fun i j t _ _ _ => dhr_bd m i j t)))
    have HT := Lib.hid (fun u (hu : Below w.heap.size w u) => dhr_tab m u (by omega))
    clear hN hT hk hb
    generalize dhr_F m = F at *
    generalize dhr_n m = N at *
    go_enter Try.func19, Try.ntmps19
    go_wp2_with fail
    rw [← HWe.out]
    refine (HC.out _ HW0.out).mono ?_
    rintro e w1 ⟨rfl, rfl⟩
    go_wp2_with fail
    refine (HT.out _ HW0.out).mono ?_
    rintro e w2 ⟨g, cg, rfl, hcu, hb2⟩
    have HCu := Lib.hid hcu
    have HB2 := Lib.hid (HW0.out.trans (hb2.mono HW0.out.size))
    have hr := RowB.below KR.out hb2 (by rw [HWs.out]; omega)
    obtain ⟨e1, e2, e3⟩ := res_cells hr (.slice (some ⟨g, 0, none⟩) N cg)
    clear hcu hb2 hr
    go_wp2_with fail
    refine bodyPost_ret (v := .tuple #[.agg #[.slice (some ⟨g, 0, none⟩) N cg], .int .i64 0]) (by simp [results, Try.results19, go_sem, e3]) rfl ?_
    exact ringRes_put (Nat.le_refl _) (by rw [HWs.out]; omega) HCu.out (Nat.le_refl _) HB2.out HF.out.2 HF.out.1 _
  · have hb : inB 1 18 k = false := by simp [inB]; omega
    rw [hb] at HC
    rw [rgC_out hin]
    have HF := Lib.hid (codF_arg (code := 2) (n := dhr_N k) (f := dhr_T k) (by decide))
    clear hk hb
    go_enter Try.func19, Try.ntmps19
    go_wp2_with fail
    rw [← HWe.out]
    refine (HC.out _ HW0.out).mono ?_
    rintro e w1 ⟨rfl, rfl⟩
    obtain ⟨e1, e2, e3⟩ := res_cells KR.out (.slice none 0 0)
    go_wp2_with fail
    refine bodyPost_ret (v := .tuple #[.agg #[.slice none 0 0], .int .i64 2]) (by simp [results, Try.results19, go_sem, e3]) rfl ?_
    exact ringRes_none HF.out.2 HF.out.1.symm (HW0.out.setCell (Nat.le_refl _) _)
set_option maxRecDepth 100000 in
set_option maxHeartbeats 1000000 in
theorem implDihedralRing_f (k : Int) (w : World) (hk : (Lit.int .i64 k).wf = true) : Calls Try.prog 20 #[.int .i64 k] w (RingRes w (rnkF (rgC 1 18 k) (dhr_N k) (dhr_T k)) (fun _ => dhr_N k) (fun _ _ => dhr_N k) (dhr_T k) (codF (rgC 1 18 k) (dhr_N k) (dhr_T k))) := by
  have HRo := Lib.hid (fun u => rof_dihedral (.agg #[.int .i64 k]) (rgC 1 18 k) (dhr_N k) (dhr_T k) u (fun u' _ => (argc_dihedral k u')) (fun h u' _ => by
      have hin := rgC_zero h
      obtain ⟨m, rfl⟩ : ∃ m : Nat, k = m := ⟨k.toNat, by omega⟩
      rw [(dhr_NT m hin).1]
      exact dhr_rank m u' (by omega)) (fun h _ u' i j _ hi hj => by
      have hin := rgC_zero h
      obtain ⟨m, rfl⟩ : ∃ m : Nat, k = m := ⟨k.toNat, by omega⟩
      rw [(dhr_NT m hin).1] at hi hj ⊢
      rw [(dhr_NT m hin).2]
      exact dhr_prod m i j u' (by omega) hi hj) (by have := dhr_NB k; omega) (rgC_wf _ _ _))
  obtain ⟨W, hW, hW0, hWs, hKR⟩ := res_start w
  have HW0 := Lib.hid hW0
  have HWs := Lib.hid hWs
  have KR := Lib.hid hKR
  have HWe := Lib.hid hW
  clear hW hW0 hWs hKR hk
  generalize rnkF (rgC 1 18 k) (dhr_N k) (dhr_T k) = rk at *
  generalize codF (rgC 1 18 k) (dhr_N k) (dhr_T k) = cd at *
  go_enter Try.func20, Try.ntmps20
  go_wp2_with fail
  rw [← HWe.out]
  refine (HRo.out _).mono ?_
  rintro e w2 ⟨a, c, rfl, ho, hb2⟩
  have HOw := Lib.hid ho
  have HB2 := Lib.hid hb2
  have hr := RowB.below KR.out hb2 (by rw [HWs.out]; omega)
  obtain ⟨e1, e2, e3⟩ := res_cells hr (.slice a rk c)
  clear ho hb2 hr
  go_wp2_with fail
  refine bodyPost_ret (v := .tuple #[.agg #[.slice a rk c], .int .i64 cd]) (by simp [results, Try.results20, go_sem, e3]) rfl ?_
  exact ringRes_pass HW0.out (Nat.le_refl _) (by rw [HWs.out]; omega) HOw.out HB2.out _
theorem implDihedralRing_f_rows (k : Int) : rnkF (rgC 1 18 k) (dhr_N k) (dhr_T k) ≤ 64 := by
  have := (codF_size (code := rgC 1 18 k) (n := dhr_N k) (f := dhr_T k)).1; omega
theorem implDihedralRing_f_cols (k : Int) : ∀ i, i < rnkF (rgC 1 18 k) (dhr_N k) (dhr_T k) → dhr_N k ≤ 64 := fun _ _ => by have := dhr_NB k; omega
theorem implDihedralRing_f_deep (k : Int) : ∀ i, i < rnkF (rgC 1 18 k) (dhr_N k) (dhr_T k) → ∀ j, j < dhr_N k → dhr_N k ≤ 64 := fun _ _ _ _ => by have := dhr_NB k; omega
end Go.Proofs.Ytmdmojklagmmiaa
