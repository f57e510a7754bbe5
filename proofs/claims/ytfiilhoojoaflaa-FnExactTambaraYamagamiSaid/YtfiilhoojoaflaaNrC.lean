/- Families of rings (the program's): the last product of a near-group ring; near-group rings. -/
import Derived.Test.YtfiilhoojoaflaaNrB
import Derived.Test.YtfiilhoojoaflaaFrN
namespace Go.Proofs.Ytfiilhoojoaflaa
open Go.RowKit
set_option linter.unusedSimpArgs false
set_option linter.unusedVariables false
set_option maxRecDepth 100000 in
set_option maxHeartbeats 4000000 in
theorem near_last_f (a : Option Addr) (n c : Nat) (o : Nat → Int) (k : Int) (N : Nat) (w : World) (h : RdR w a n o) (ho : ∀ i, i < n → 1 ≤ o i) (hp : prodO o n = N) (hN : N ≤ 16) (hn : n ≤ 1048576) :
    Calls Try.prog 127 #[.agg #[.slice a n c, .int .i64 k], .int .i64 N, .int .i64 N] w (RowN w (N + 1) (nearF o n N k N N)) := by
  obtain ⟨g1, g2, g3, g4, g5⟩ := gN_eq ho
  have hg : gN n o = N := by
    rw [szO, hp, if_pos (by omega)] at g1
    omega
  have h0 : 0 < N := by omega
  have HRk := Lib.hid (fun u (hu : Below w.heap.size w u) => group_rank a n c o u (h.below hu (Nat.le_refl _)) ho (by omega))
  rw [hg] at HRk
  have HF := Lib.hid (show ∀ t, t < N + 1 → (if t < N then 1 else k) = nearF o n N k N N t from fun t ht => by
    rw [near_last t ht]
    by_cases e : t = N
    · rw [if_pos e, if_neg (by omega)]
    · rw [if_neg e, if_pos (by omega)])
  clear h ho hp hg g1 g2 g3 g4 g5
  have HB0 := Lib.hid (below_alloc w (.cells #[.slice a n c, .int .i64 k] 67))
  have KN := Lib.hid (cells_twoN w (.slice a n c) (.int .i64 k) 67)
  go_enter Try.func127, Try.ntmps127
  go_wp2_with fail
  refine (HRk.out _ HB0.out).mono ?_
  rintro e W ⟨rfl, hb1⟩
  have HB1 := Lib.hid (HB0.out.trans (hb1.mono HB0.out.size))
  have HL1 := Lib.hid (show w.heap.size < W.heap.size by have := hb1.size; simp at this; omega)
  have KW := Lib.hid ((hb1.cell (p := ⟨w.heap.size, 1, none⟩) (by simp)).trans KN.out.2)
  have KX1 := Lib.hid (fun (x : Obj) => (World.cell?_alloc_lt W.drew x ⟨w.heap.size, 1, none⟩ HL1.out).trans (show W.drew.cell? ⟨w.heap.size, 1, none⟩ = some (.int .i64 k) from KW.out))
  have KX2 := Lib.hid (fun (x y : Obj) => (World.cell?_alloc_lt (W.drew.alloc x) y ⟨w.heap.size, 1, none⟩ (by simp; have : w.heap.size < W.heap.size := HL1.out; show w.heap.size < W.heap.size + 1; omega)).trans (KX1.out x))
  clear hb1
  go_wp2_with fail
  go_region_held3 (fun u => u.cell? ⟨w.heap.size, 1, none⟩ = some (.int .i64 k)) (first | exact K5.out | exact K3.out | exact K4.out _ | exact KW.out | exact KX1.out _ | exact KX2.out _ _) (first | (have q9 := HR3.out; clear q9; (first | (refine grow64S _ (by rfl) _ _ (by rfl) g N (fun _ => 1) (by rfl) (fun t ht => (World.cell?_alloc_lt _ _ ⟨g, t, none⟩ (RowB.lt HR3.out)).trans (RowB.cell HR3.out ht)) ⟨w3.heap.size, 0, none⟩ k (by rfl) (cell_one_new _ _ _) (by omega) ?_; intro v5 w5 hown5 hgr5; have HG5 := Lib.hid (grownNone hgr5); have HB5 := Lib.hid (show Below w.heap.size w w5 from HB3.out.trans (((below_alloc w3 _).trans ((grownNone hgr5).mono (by simp))).mono HB3.out.size)); have HL5 := Lib.hid (show w.heap.size ≤ (w3.alloc (.cells #[.int .i64 k] 2)).heap.size by have := HB3.out.size; simp; omega)) | (refine grow64S _ (by rfl) _ _ (by rfl) g N (fun _ => 1) (by rfl) (fun t ht => RowB.cell HR3.out ht) ⟨W.heap.size, 0, none⟩ k (by rfl) (one_cell (HPs.out ⟨W.heap.size, 0, none⟩ _ ((World.cell?_alloc_lt _ _ _ (by simp)).trans (cell_box W.drew _ _)))) (by omega) ?_; intro v5 w5 hown5 hgr5; have HB5 := Lib.hid (show Below w.heap.size w w5 from HB3.out.trans ((grownNone hgr5).mono HB3.out.size)); have HL5 := Lib.hid (show w.heap.size ≤ w3.heap.size from HB3.out.size)) | (refine grow64S _ (by rfl) _ _ (by rfl) g N (fun _ => 1) (by rfl) (fun t ht => RowB.cell HR3.out ht) ⟨W.heap.size + 1, 0, none⟩ k (by rfl) (one_cell (HPs.out ⟨W.heap.size + 1, 0, none⟩ _ (by have h9 := cell_box (W.drew.alloc (.cells #[.int .i64 1] 2)) (.int .i64 k) 2; simp only [World.size_alloc] at h9; exact h9))) (by omega) ?_; intro v5 w5 hown5 hgr5; have HB5 := Lib.hid (show Below w.heap.size w w5 from HB3.out.trans ((grownNone hgr5).mono HB3.out.size)); have HL5 := Lib.hid (show w.heap.size ≤ w3.heap.size from HB3.out.size))); have HO5 := Lib.hid hown5; have K5 := Lib.hid (show w5.cell? ⟨w.heap.size, 1, none⟩ = some (.int .i64 k) from by first | exact ((grownNone hgr5).cell (p := ⟨w.heap.size, 1, none⟩) (by have := HL3.out; show w.heap.size < _; omega)).trans K3.out | exact ((grownNone hgr5).cell (p := ⟨w.heap.size, 1, none⟩) (by have := HL3.out; simp; omega)).trans (K4.out _)); clear hown5 hgr5) | (go_at_call 129; refine (repeat_f _ 0 1 N 1 _ (by first | exact cell_box _ _ _ | (have h9 := cell_box (W.drew.alloc (.cells #[.int .i64 k] 2)) (.int .i64 1) 2; simp only [World.size_alloc] at h9; exact h9) | exact (World.cell?_alloc_lt _ _ _ (by simp)).trans (cell_box _ _ _)) (by simp <;> omega) h0 (by omega)).mono ?_; rintro e w3 ⟨g, rfl, hgl, hr, hb⟩; have HR3 := Lib.hid hr; have HPs := Lib.hid (fun (p : Addr) (u : Value) (hq : World.cell? _ p = some u) => (hb.cell (p := p) (World.block_lt_of_cell? _ p hq)).trans hq); have HBW := Lib.hid (show Below W.heap.size W w3 from by first | exact ((Below.refl _ _).drew.alloc (Nat.le_refl _) _).trans (hb.mono (by simp)) | exact (((Below.refl _ _).drew.alloc (Nat.le_refl _) _).alloc (by simp) _).trans (hb.mono (by simp; omega))); have HB3 := Lib.hid (HB1.out.trans (HBW.out.mono HB1.out.size)); have HL3 := Lib.hid (show w.heap.size < w3.heap.size by have := HBW.out.size; have := HL1.out; omega); have K3 := Lib.hid ((HBW.out.cell (p := ⟨w.heap.size, 1, none⟩) HL1.out).trans KW.out); have K4 := Lib.hid (fun (x : Obj) => (World.cell?_alloc_lt w3 x ⟨w.heap.size, 1, none⟩ HL3.out).trans K3.out); clear hgl hr hb))
  all_goals
    obtain ⟨g5, c5, rfl, d1, d2, d3, d4⟩ := grown_row (w := w) HO5.out
    have HD := Lib.hid d4
    have HG := Lib.hid (Nat.le_trans HL5.out d3)
    clear d3 d4
    go_wp2_with fail
    go_ret
    exact ⟨g5, c5, rfl, d1, d2, HG.out, HD.out.congr (fun t ht => HF.out t ht), HB5.out⟩
end Go.Proofs.Ytfiilhoojoaflaa
