/- Near-group rings and Tambara-Yamagami rings, of both. -/
import Derived.Test.YtfiilhoojoaflaaNrC
namespace Go.Proofs.Ytfiilhoojoaflaa
open Go.RowKit
set_option linter.unusedSimpArgs false
set_option linter.unusedVariables false
/-- the table of a near-group ring -/
def nrT (n : Nat) (o : Nat → Int) (k : Int) : Nat → Nat → Nat → Int := nearF o n (gN n o) k
theorem cdN_zero {n : Nat} {o : Nat → Int} {k : Int} (h : cdN n o k = 0) : ordB n o = true ∧ 0 ≤ k ∧ k ≤ 1000 := by
  unfold cdN at h
  cases hb : ordB n o
  · rw [hb] at h; cases h
  · rw [hb, if_pos rfl] at h
    exact ⟨rfl, rgC_zero h⟩
theorem cdN_wf (n : Nat) (o : Nat → Int) (k : Int) : (Lit.int .i64 (cdN n o k)).wf = true := by
  unfold cdN; split
  · exact rgC_wf _ _ _
  · rfl
theorem near_rof (a : Option Addr) (n c : Nat) (o : Nat → Int) (k : Int) (u : World) (h : RdR u a n o) (hn : n ≤ 1048576) :
    Calls Try.prog 53 #[.iface 67 (.agg #[.slice a n c, .int .i64 k])] u (RingRes u (rnkF (cdN n o k) (gN n o + 1) (nrT n o k)) (fun _ => gN n o + 1) (fun _ _ => gN n o + 1) (nrT n o k) (codF (cdN n o k) (gN n o + 1) (nrT n o k))) :=
  rof_nearGroup (.agg #[.slice a n c, .int .i64 k]) (cdN n o k) (gN n o + 1) (nrT n o k) u (fun u' hu' => argc_near a n c o k u' (h.below hu' (Nat.le_refl _)) hn)
    (fun hc u' hu' => near_rank a n c o k u' (h.below hu' (Nat.le_refl _)) (ordB_t (cdN_zero hc).1).2 (by omega))
    (fun hc hb u' i j hu' hi hj => by
      have ho := (ordB_t (cdN_zero hc).1).2
      have hp := (gN_eq ho).2.2.2.2 (by omega)
      have hr := h.below hu' (Nat.le_refl _)
      show Calls Try.prog 127 #[.agg #[.slice a n c, .int .i64 k], .int .i64 i, .int .i64 j] u' (RowN u' (gN n o + 1) (nearF o n (gN n o) k i j))
      by_cases h1 : i < gN n o ∧ j < gN n o
      · exact near_in_f a n c o k (gN n o) i j u' hr ho hp (by omega) hn h1.1 h1.2
      · by_cases h2 : i < gN n o ∨ j < gN n o
        · exact near_side_f a n c o k (gN n o) i j u' hr ho hp (by omega) hn hi hj h1 h2
        · obtain rfl : i = gN n o := by omega
          obtain rfl : j = gN n o := by omega
          exact near_last_f a n c o k (gN n o) u' hr ho hp (by omega) hn)
    (by have := gN_le n o; omega) (cdN_wf n o k)
set_option maxRecDepth 100000 in
set_option maxHeartbeats 1000000 in
theorem implNear_f (a : Option Addr) (n c : Nat) (o : Nat → Int) (k : Int) (w : World) (h : RdR w a n o) (hn : n ≤ 1048576) (hk : (Lit.int .i64 k).wf = true) :
    Calls Try.prog 32 #[.slice a n c, .int .i64 k] w (RingRes w (rnkF (cdN n o k) (gN n o + 1) (nrT n o k)) (fun _ => gN n o + 1) (fun _ _ => gN n o + 1) (nrT n o k) (codF (cdN n o k) (gN n o + 1) (nrT n o k))) := by
  have HRo := Lib.hid (fun u (hu : Below w.heap.size w u) => near_rof a n c o k u (h.below hu (Nat.le_refl _)) hn)
  have HGo := Lib.hid (fun u => groupOf_f a n c u)
  obtain ⟨W, hW, hW0, hWs, hKR⟩ := res_start w
  have HW0 := Lib.hid hW0
  have HWs := Lib.hid hWs
  have KR := Lib.hid hKR
  have HWe := Lib.hid hW
  clear hW hW0 hWs hKR h
  generalize rnkF (cdN n o k) (gN n o + 1) (nrT n o k) = rk at *
  generalize codF (cdN n o k) (gN n o + 1) (nrT n o k) = cd at *
  go_enter Try.func32, Try.ntmps32
  go_wp2_with fail
  rw [← HWe.out]
  refine (HGo.out _).mono ?_
  rintro e w1 ⟨rfl, hb1⟩
  have HB1 := Lib.hid (HW0.out.trans (hb1.mono HW0.out.size))
  have KR1 := Lib.hid (RowB.below KR.out hb1 (by rw [HWs.out]; omega))
  have HL1 := Lib.hid (show w.heap.size + 1 ≤ w1.heap.size by have := hb1.size; rw [HWs.out] at this; exact this)
  clear hb1
  go_wp2_with fail
  refine (HRo.out _ HB1.out).mono ?_
  rintro e w2 ⟨a', c', rfl, ho, hb2⟩
  have HOw := Lib.hid ho
  have HB2 := Lib.hid hb2
  have hr := RowB.below KR1.out hb2 (by have := HL1.out; omega)
  obtain ⟨e1, e2, e3⟩ := res_cells hr (.slice a' rk c')
  clear ho hb2 hr
  go_wp2_with fail
  refine bodyPost_ret (v := .tuple #[.agg #[.slice a' rk c'], .int .i64 cd]) (by simp [results, Try.results32, go_sem, e3]) rfl ?_
  exact ringRes_pass HB1.out (Nat.le_refl _) (by have := HL1.out; omega) HOw.out HB2.out _
theorem implNear_f_rows (n : Nat) (o : Nat → Int) (k : Int) : rnkF (cdN n o k) (gN n o + 1) (nrT n o k) ≤ 64 := by
  have := (codF_size (code := cdN n o k) (n := gN n o + 1) (f := nrT n o k)).1; omega
theorem implNear_f_cols (n : Nat) (o : Nat → Int) (k : Int) : ∀ i, i < rnkF (cdN n o k) (gN n o + 1) (nrT n o k) → gN n o + 1 ≤ 64 := fun _ _ => by have := gN_le n o; omega
theorem implNear_f_deep (n : Nat) (o : Nat → Int) (k : Int) : ∀ i, i < rnkF (cdN n o k) (gN n o + 1) (nrT n o k) → ∀ j, j < gN n o + 1 → gN n o + 1 ≤ 64 := fun _ _ _ _ => by have := gN_le n o; omega
set_option maxRecDepth 100000 in
set_option maxHeartbeats 1000000 in
theorem implTy_f (a : Option Addr) (n c : Nat) (o : Nat → Int) (w : World) (h : RdR w a n o) (hn : n ≤ 1048576) :
    Calls Try.prog 30 #[.slice a n c] w (RingRes w (rnkF (cdN n o 0) (gN n o + 1) (nrT n o 0)) (fun _ => gN n o + 1) (fun _ _ => gN n o + 1) (nrT n o 0) (codF (cdN n o 0) (gN n o + 1) (nrT n o 0))) := by
  have HRo := Lib.hid (fun u (hu : Below w.heap.size w u) => near_rof a n c o 0 u (h.below hu (Nat.le_refl _)) hn)
  have HGo := Lib.hid (fun u => groupOf_f a n c u)
  obtain ⟨W, hW, hW0, hWs, hKR⟩ := res_start w
  have HW0 := Lib.hid hW0
  have HWs := Lib.hid hWs
  have KR := Lib.hid hKR
  have HWe := Lib.hid hW
  clear hW hW0 hWs hKR h
  generalize rnkF (cdN n o 0) (gN n o + 1) (nrT n o 0) = rk at *
  generalize codF (cdN n o 0) (gN n o + 1) (nrT n o 0) = cd at *
  go_enter Try.func30, Try.ntmps30
  go_wp2_with fail
  rw [← HWe.out]
  refine (HGo.out _).mono ?_
  rintro e w1 ⟨rfl, hb1⟩
  have HB1 := Lib.hid (HW0.out.trans (hb1.mono HW0.out.size))
  have KR1 := Lib.hid (RowB.below KR.out hb1 (by rw [HWs.out]; omega))
  have HL1 := Lib.hid (show w.heap.size + 1 ≤ w1.heap.size by have := hb1.size; rw [HWs.out] at this; exact this)
  clear hb1
  go_wp2_with fail
  refine (HRo.out _ HB1.out).mono ?_
  rintro e w2 ⟨a', c', rfl, ho, hb2⟩
  have HOw := Lib.hid ho
  have HB2 := Lib.hid hb2
  have hr := RowB.below KR1.out hb2 (by have := HL1.out; omega)
  obtain ⟨e1, e2, e3⟩ := res_cells hr (.slice a' rk c')
  clear ho hb2 hr
  go_wp2_with fail
  refine bodyPost_ret (v := .tuple #[.agg #[.slice a' rk c'], .int .i64 cd]) (by simp [results, Try.results30, go_sem, e3]) rfl ?_
  exact ringRes_pass HB1.out (Nat.le_refl _) (by have := HL1.out; omega) HOw.out HB2.out _
theorem implTy_f_rows (n : Nat) (o : Nat → Int) : rnkF (cdN n o 0) (gN n o + 1) (nrT n o 0) ≤ 64 := by
  have := (codF_size (code := cdN n o 0) (n := gN n o + 1) (f := nrT n o 0)).1; omega
theorem implTy_f_cols (n : Nat) (o : Nat → Int) : ∀ i, i < rnkF (cdN n o 0) (gN n o + 1) (nrT n o 0) → gN n o + 1 ≤ 64 := fun _ _ => by have := gN_le n o; omega
theorem implTy_f_deep (n : Nat) (o : Nat → Int) : ∀ i, i < rnkF (cdN n o 0) (gN n o + 1) (nrT n o 0) → ∀ j, j < gN n o + 1 → gN n o + 1 ≤ 64 := fun _ _ _ _ => by have := gN_le n o; omega
set_option maxRecDepth 100000 in
set_option maxHeartbeats 1000000 in
theorem specNear_f (a : Option Addr) (n c : Nat) (o : Nat → Int) (k : Int) (w : World) (h : RdR w a n o) (hn : n ≤ 1048576) (hk : (Lit.int .i64 k).wf = true) :
    Calls Try.prog 31 #[.slice a n c, .int .i64 k] w (RingRes w (rnkF (cdN n o k) (gN n o + 1) (nrT n o k)) (fun _ => gN n o + 1) (fun _ _ => gN n o + 1) (nrT n o k) (codF (cdN n o k) (gN n o + 1) (nrT n o k))) := by
  have HC := Lib.hid (fun u (hu : Below w.heap.size w u) => l06Code_f a n c 1 o u (h.below hu (Nat.le_refl _)) (by omega) (by omega))
  have HI := Lib.hid (fun u => l01In_any k 0 1000 u)
  obtain ⟨W, hW, hW0, hWs, hKR⟩ := res_start w
  have HW0 := Lib.hid hW0
  have HWs := Lib.hid hWs
  have KR := Lib.hid hKR
  have HWe := Lib.hid hW
  clear hW hW0 hWs hKR
  cases hb : ordB n o
  · have hc : ordC n o 1 = 1 := by unfold ordC; rw [hb]; rfl
    rw [hc] at HC
    have hcd : cdN n o k = 1 := by unfold cdN; rw [hb]; rfl
    rw [hcd]
    have HF := Lib.hid (codF_arg (code := 1) (n := gN n o + 1) (f := nrT n o k) (by decide))
    clear hc hcd h hb
    go_enter Try.func31, Try.ntmps31
    go_wp2_with fail
    rw [← HWe.out]
    refine (HC.out _ HW0.out).mono ?_
    rintro e w1 ⟨rfl, rfl⟩
    obtain ⟨e1, e2, e3⟩ := res_cells KR.out (.slice none 0 0)
    go_wp2_with fail
    refine bodyPost_ret (v := .tuple #[.agg #[.slice none 0 0], .int .i64 1]) (by simp [results, Try.results31, go_sem, e3]) rfl ?_
    exact ringRes_none HF.out.2 HF.out.1.symm (HW0.out.setCell (Nat.le_refl _) _)
  · obtain ⟨g1, g2, g3, g4, g5⟩ := gN_eq (ordB_t hb).2
    by_cases hin : 0 ≤ k ∧ k ≤ 1000
    · have hcd : cdN n o k = 0 := by unfold cdN; rw [hb, if_pos rfl, rgC_in hin]
      rw [hcd]
      have hib : inB 0 1000 k = true := by simp [inB]; omega
      rw [hib] at HI
      by_cases hbig : 16 < gN n o + 1
      · have hc : ordC n o 1 = 3 := by unfold ordC; rw [hb, if_pos rfl, if_pos (by omega)]
        rw [hc] at HC
        have HF := Lib.hid (codF_big (n := gN n o + 1) (f := nrT n o k) hbig)
        clear hc hcd h hb hib
        generalize nrT n o k = F at *
        generalize gN n o + 1 = N at *
        go_enter Try.func31, Try.ntmps31
        go_wp2_with fail
        rw [← HWe.out]
        refine (HC.out _ HW0.out).mono ?_
        rintro e w1 ⟨rfl, rfl⟩
        go_wp2_with fail
        refine (HI.out _).mono ?_
        rintro e w1 ⟨rfl, rfl⟩
        obtain ⟨e1, e2, e3⟩ := res_cells KR.out (.slice none 0 0)
        go_wp2_with fail
        refine bodyPost_ret (v := .tuple #[.agg #[.slice none 0 0], .int .i64 3]) (by simp [results, Try.results31, go_sem, e3]) rfl ?_
        exact ringRes_none HF.out.2 HF.out.1.symm (HW0.out.setCell (Nat.le_refl _) _)
      have hc : ordC n o 1 = 0 := by unfold ordC; rw [hb, if_pos rfl, if_neg (by omega)]
      rw [hc] at HC
      have hcub := cub_of (show 1 ≤ gN n o + 1 by omega) (by omega) (f := nrT n o k) (fun i j t _ _ _ => nearF_bd hin.1 hin.2 i j t)
      have HF := Lib.hid (codF_yes hbig hcub)
      have HT := Lib.hid (fun u (hu : Below w.heap.size w u) => l06Near_f a n c o (gN n o) k u (h.below hu (Nat.le_refl _)) (ordB_t hb).2 (g5 (by omega)) (by omega) (by omega))
      have HGt := Lib.hid (show nearF o n (gN n o) k = nrT n o k from rfl)
      rw [HGt.out] at HT
      clear hc hcd h hb hcub g5 g1 g2 HGt hib
      generalize nrT n o k = F at *
      generalize gN n o + 1 = N at *
      go_enter Try.func31, Try.ntmps31
      go_wp2_with fail
      rw [← HWe.out]
      refine (HC.out _ HW0.out).mono ?_
      rintro e w1 ⟨rfl, rfl⟩
      go_wp2_with fail
      refine (HI.out _).mono ?_
      rintro e w1 ⟨rfl, rfl⟩
      go_wp2_with fail
      refine (HT.out _ HW0.out).mono ?_
      rintro e w2 ⟨g, cg, rfl, hcu, hb2⟩
      have HCu := Lib.hid hcu
      have HB2 := Lib.hid (HW0.out.trans (hb2.mono HW0.out.size))
      have hr := RowB.below KR.out hb2 (by rw [HWs.out]; omega)
      obtain ⟨e1, e2, e3⟩ := res_cells hr (.slice (some ⟨g, 0, none⟩) N cg)
      clear hcu hb2 hr
      go_wp2_with fail
      refine bodyPost_ret (v := .tuple #[.agg #[.slice (some ⟨g, 0, none⟩) N cg], .int .i64 0]) (by simp [results, Try.results31, go_sem, e3]) rfl ?_
      exact ringRes_put (Nat.le_refl _) (by rw [HWs.out]; omega) HCu.out (Nat.le_refl _) HB2.out HF.out.2 HF.out.1 _
    · have hcd : cdN n o k = 2 := by unfold cdN; rw [hb, if_pos rfl, rgC_out hin]
      rw [hcd]
      have hib : inB 0 1000 k = false := by simp [inB]; omega
      rw [hib] at HI
      have HF := Lib.hid (codF_arg (code := 2) (n := gN n o + 1) (f := nrT n o k) (by decide))
      have hcc : ordC n o 1 = 3 ∨ ordC n o 1 = 0 := by
        unfold ordC; rw [hb, if_pos rfl]; split <;> simp
      clear hcd h hb hib
      generalize nrT n o k = F at *
      generalize gN n o + 1 = N at *
      rcases hcc with hc | hc
      all_goals
        rw [hc] at HC
        clear hc
        go_enter Try.func31, Try.ntmps31
        go_wp2_with fail
        rw [← HWe.out]
        refine (HC.out _ HW0.out).mono ?_
        rintro e w1 ⟨rfl, rfl⟩
        go_wp2_with fail
        refine (HI.out _).mono ?_
        rintro e w1 ⟨rfl, rfl⟩
        obtain ⟨e1, e2, e3⟩ := res_cells KR.out (.slice none 0 0)
        go_wp2_with fail
        refine bodyPost_ret (v := .tuple #[.agg #[.slice none 0 0], .int .i64 2]) (by simp [results, Try.results31, go_sem, e3]) rfl ?_
        exact ringRes_none HF.out.2 HF.out.1.symm (HW0.out.setCell (Nat.le_refl _) _)
theorem OwnT.more {w : World} {lo hi hi' : Nat} {a : Option Addr} {n : Nat} {M : Nat → Nat} {L : Nat → Nat → Nat} {f : Nat → Nat → Nat → Int} (h : OwnT w lo hi a n M L f) (h2 : hi ≤ hi') : OwnT w lo hi' a n M L f := by
  rcases h with h0 | ⟨b, rfl, hm⟩
  · exact Or.inl h0
  · exact Or.inr ⟨b, rfl, hm.mono (Nat.le_refl _) h2⟩
set_option maxRecDepth 100000 in
set_option maxHeartbeats 1000000 in
theorem specTy_f (a : Option Addr) (n c : Nat) (o : Nat → Int) (w : World) (h : RdR w a n o) (hn : n ≤ 1048576) :
    Calls Try.prog 29 #[.slice a n c] w (RingRes w (rnkF (cdN n o 0) (gN n o + 1) (nrT n o 0)) (fun _ => gN n o + 1) (fun _ _ => gN n o + 1) (nrT n o 0) (codF (cdN n o 0) (gN n o + 1) (nrT n o 0))) := by
  have HRo := Lib.hid (fun u (hu : Below w.heap.size w u) => specNear_f a n c o 0 u (h.below hu (Nat.le_refl _)) hn rfl)
  obtain ⟨W, hW, hW0, hWs, hKR⟩ := res_start w
  have HW0 := Lib.hid hW0
  have HWs := Lib.hid hWs
  have KR := Lib.hid hKR
  have HWe := Lib.hid hW
  clear hW hW0 hWs hKR h
  generalize rnkF (cdN n o 0) (gN n o + 1) (nrT n o 0) = rk at *
  generalize codF (cdN n o 0) (gN n o + 1) (nrT n o 0) = cd at *
  go_enter Try.func29, Try.ntmps29
  go_wp2_with fail
  rw [← HWe.out]
  refine (HRo.out _ HW0.out).mono ?_
  rintro e w2 ⟨a', c', rfl, ho, hb2⟩
  obtain ⟨X, hX⟩ : ∃ X, X = w2.alloc (.cells #[.slice a' rk c'] 29) := ⟨_, rfl⟩
  have hx := below_alloc w2 (.cells #[.slice a' rk c'] 29)
  rw [← hX] at hx
  have HOw := Lib.hid ((ho.below hx (Nat.le_refl _)).more hx.size)
  have HB2 := Lib.hid (hb2.trans (hx.mono hb2.size))
  have hr := RowB.below KR.out HB2.out (by rw [HWs.out]; omega)
  obtain ⟨e1, e2, e3⟩ := res_cells hr (.slice a' rk c')
  have hk : X.cell? ⟨w2.heap.size, 0, none⟩ = some (.slice a' rk c') := by rw [hX]; exact cell_box _ _ _
  clear ho hb2 hr hx
  subst hX
  go_wp2_with fail
  refine bodyPost_ret (v := .tuple #[.agg #[.slice a' rk c'], .int .i64 cd]) (by simp [results, Try.results29, go_sem, e3]) rfl ?_
  exact ringRes_pass HW0.out (Nat.le_refl _) (by rw [HWs.out]; omega) HOw.out HB2.out _
end Go.Proofs.Ytfiilhoojoaflaa
