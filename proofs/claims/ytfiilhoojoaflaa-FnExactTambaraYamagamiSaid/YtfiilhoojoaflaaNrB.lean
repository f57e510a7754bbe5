/- Families of rings (the program's): products of near-group rings. -/
import Derived.Test.YtfiilhoojoaflaaNrA
import Derived.Deep.RegionHeld3
namespace Go.Proofs.Ytfiilhoojoaflaa
open Go.RowKit
set_option linter.unusedSimpArgs false
set_option linter.unusedVariables false
theorem grownNone {w w' : World} (h : w.grownBy w' none) : Below w.heap.size w w' := (Below.refl w.heap.size w).grown h (Nat.le_refl _) (fun q hq => by cases hq)
set_option maxRecDepth 100000 in
set_option maxHeartbeats 1000000 in
theorem near_in_f (a : Option Addr) (n c : Nat) (o : Nat → Int) (k : Int) (N i j : Nat) (w : World) (h : RdR w a n o) (ho : ∀ i, i < n → 1 ≤ o i) (hp : prodO o n = N) (hN : N ≤ 16) (hn : n ≤ 1048576) (hi : i < N) (hj : j < N) :
    Calls Try.prog 127 #[.agg #[.slice a n c, .int .i64 k], .int .i64 i, .int .i64 j] w (RowN w (N + 1) (nearF o n N k i j)) := by
  have hg : gN n o = N := by
    obtain ⟨g1, g2, g3, g4, g5⟩ := gN_eq ho
    rw [szO, hp, if_pos (by omega)] at g1
    omega
  have HRk := Lib.hid (fun u (hu : Below w.heap.size w u) => group_rank a n c o u (h.below hu (Nat.le_refl _)) ho (by omega))
  rw [hg] at HRk
  have HPd := Lib.hid (fun u (hu : Below w.heap.size w u) => group_product a n c o N i j u (h.below hu (Nat.le_refl _)) ho hp hN hn hi hj)
  have hbd := addO_bd (m := n) (i : Int) (j : Int) ho
  rw [hp] at hbd
  have HF := Lib.hid (show ∀ t, t < N + 1 → (if t < N then grpF o n N i j t else 0) = nearF o n N k i j t from fun t ht => by
    rw [near_in hi hj]
    by_cases e : t < N
    · rw [if_pos e]
    · rw [if_neg e]
      unfold grpF
      rw [if_neg (by omega)])
  clear h ho hp hg hbd
  have HB0 := Lib.hid (below_alloc w (.cells #[.slice a n c, .int .i64 k] 67))
  have KW := Lib.hid (cells_twoN w (.slice a n c) (.int .i64 k) 67)
  go_enter Try.func127, Try.ntmps127
  go_wp2_with fail
  refine (HRk.out _ HB0.out).mono ?_
  rintro e w1 ⟨rfl, hb1⟩
  have HB1 := Lib.hid (HB0.out.trans (hb1.mono HB0.out.size))
  have k1 := (hb1.cell (p := ⟨w.heap.size, 0, none⟩) (by simp)).trans KW.out.1
  clear hb1
  go_wp2_with fail
  refine (HPd.out _ HB1.out).mono ?_
  rintro e w2 ⟨g, rfl, hgl, hr, hb2⟩
  have HB2 := Lib.hid (HB1.out.trans (hb2.mono HB1.out.size))
  have HR := Lib.hid hr
  clear hb2 hgl hr k1
  go_wp2_with (at_builtin; refine grow64 _ rfl _ _ rfl g N _ rfl (fun t ht => (World.cell?_alloc_lt _ _ ⟨g, t, none⟩ (RowB.lt HR.out)).trans (RowB.cell HR.out ht)) ⟨w2.heap.size, 0, none⟩ 0 rfl (cell_one_new _ _ _) (by omega) ?_; intro v5 w5 hown5 hgr5)
  obtain ⟨g5, c5, rfl, d1, d2, d3, d4⟩ := grown_row (w := w2) hown5
  have HD := Lib.hid d4
  have HB5 := Lib.hid (HB2.out.trans (((below_alloc w2 _).trans ((grownNone hgr5).mono (by simp))).mono HB2.out.size))
  have HG5 := Lib.hid (show w.heap.size ≤ g5 by have := HB2.out.size; simp at d3; omega)
  clear hown5 hgr5 d3 d4
  go_wp2_with fail
  go_ret
  exact ⟨g5, c5, rfl, d1, d2, HG5.out, HD.out.congr (fun t ht => HF.out t ht), HB5.out⟩
set_option maxRecDepth 100000 in
set_option maxHeartbeats 1000000 in
theorem near_side_f (a : Option Addr) (n c : Nat) (o : Nat → Int) (k : Int) (N i j : Nat) (w : World) (h : RdR w a n o) (ho : ∀ i, i < n → 1 ≤ o i) (hp : prodO o n = N) (hN : N ≤ 16) (hn : n ≤ 1048576) (hi : i < N + 1) (hj : j < N + 1) (h1 : ¬ (i < N ∧ j < N)) (h2 : i < N ∨ j < N) :
    Calls Try.prog 127 #[.agg #[.slice a n c, .int .i64 k], .int .i64 i, .int .i64 j] w (RowN w (N + 1) (nearF o n N k i j)) := by
  have hg : gN n o = N := by
    obtain ⟨g1, g2, g3, g4, g5⟩ := gN_eq ho
    rw [szO, hp, if_pos (by omega)] at g1
    omega
  have HRk := Lib.hid (fun u (hu : Below w.heap.size w u) => group_rank a n c o u (h.below hu (Nat.le_refl _)) ho (by omega))
  have HRn := Lib.hid (fun u (hu : Below w.heap.size w u) => near_rank a n c o k u (h.below hu (Nat.le_refl _)) ho (by omega))
  rw [hg] at HRk HRn
  have HF := Lib.hid (fun t => near_side (o := o) (n := n) (kk := k) hi hj h1 h2 t)
  have HV := Lib.hid (fun u => vectorWith_f (N + 1) N u (by omega) (by omega))
  clear h ho hp hg
  obtain ⟨M, hM⟩ : ∃ M, M = N + 1 := ⟨_, rfl⟩
  rw [← hM] at HRn HV hi hj ⊢
  have hMb : M ≤ 17 := by omega
  have HMe := Lib.hid hM
  clear hM
  have HB0 := Lib.hid (below_alloc w (.cells #[.slice a n c, .int .i64 k] 67))
  have KW := Lib.hid (cells_twoN w (.slice a n c) (.int .i64 k) 67)
  by_cases hiN : i < N
  · have hjN : ¬ j < N := fun e => h1 ⟨hiN, e⟩
    go_enter Try.func127, Try.ntmps127
    go_wp2_with fail
    refine (HRk.out _ HB0.out).mono ?_
    rintro e w1 ⟨rfl, hb1⟩
    have HB1 := Lib.hid (HB0.out.trans (hb1.mono HB0.out.size))
    have k1 := (hb1.cell (p := ⟨w.heap.size, 0, none⟩) (by simp)).trans KW.out.1
    have k2 := (hb1.cell (p := ⟨w.heap.size, 1, none⟩) (by simp)).trans KW.out.2
    clear hb1
    go_wp2_with fail
    refine (HRn.out _ HB1.out).mono ?_
    rintro e w2 ⟨rfl, hb2⟩
    have HB2 := Lib.hid (HB1.out.trans (hb2.mono HB1.out.size))
    clear hb2
    go_wp2_with fail
    refine (HV.out _).mono ?_
    rintro e w3 ⟨g, rfl, hgl, hr, hb3⟩
    have HB3 := Lib.hid (HB2.out.trans (hb3.mono HB2.out.size))
    have HG := Lib.hid (Nat.le_trans HB2.out.size hgl)
    have HR := Lib.hid hr
    clear hb3 hgl hr
    go_wp2_with fail
    go_ret
    exact ⟨g, _, rfl, Nat.le_refl _, by unfold maxLen; omega, HG.out, HR.out.congr (fun t _ => (HF.out t).symm), HB3.out⟩
  · have hjN : j < N := by omega
    go_enter Try.func127, Try.ntmps127
    go_wp2_with fail
    refine (HRk.out _ HB0.out).mono ?_
    rintro e w1 ⟨rfl, hb1⟩
    have HB1 := Lib.hid (HB0.out.trans (hb1.mono HB0.out.size))
    have k1 := (hb1.cell (p := ⟨w.heap.size, 0, none⟩) (by simp)).trans KW.out.1
    have k2 := (hb1.cell (p := ⟨w.heap.size, 1, none⟩) (by simp)).trans KW.out.2
    clear hb1
    go_wp2_with fail
    refine (HRn.out _ HB1.out).mono ?_
    rintro e w2 ⟨rfl, hb2⟩
    have HB2 := Lib.hid (HB1.out.trans (hb2.mono HB1.out.size))
    clear hb2
    go_wp2_with fail
    refine (HV.out _).mono ?_
    rintro e w3 ⟨g, rfl, hgl, hr, hb3⟩
    have HB3 := Lib.hid (HB2.out.trans (hb3.mono HB2.out.size))
    have HG := Lib.hid (Nat.le_trans HB2.out.size hgl)
    have HR := Lib.hid hr
    clear hb3 hgl hr
    go_wp2_with fail
    go_ret
    exact ⟨g, _, rfl, Nat.le_refl _, by unfold maxLen; omega, HG.out, HR.out.congr (fun t _ => (HF.out t).symm), HB3.out⟩
end Go.Proofs.Ytfiilhoojoaflaa
