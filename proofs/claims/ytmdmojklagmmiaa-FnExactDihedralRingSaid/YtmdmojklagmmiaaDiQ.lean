/- Dihedral rings (the program's): a plane is added to a row. -/
import Derived.Test.YtmdmojklagmmiaaDiP
namespace Go.Proofs.Ytmdmojklagmmiaa
open Go.RowKit
set_option linter.unusedSimpArgs false
set_option linter.unusedVariables false
theorem cnA_two (x y z : Nat) : cnA [x, y] z = (if z = x then 1 else 0) + (if z = y then 1 else 0) := by
  unfold cnA cn
  rw [List.take_length, List.count_cons, List.count_cons, List.count_nil]
  by_cases h1 : z = x <;> by_cases h2 : z = y
  · simp [h1, h2]; split <;> simp_all
  · subst h1; have e2 : ¬ y = z := fun e => h2 e.symm
    simp [h2, e2]
  · subst h2; have e1 : ¬ x = z := fun e => h1 e.symm
    simp [h1, e1]
  · have e1 : ¬ x = z := fun e => h1 e.symm
    have e2 : ¬ y = z := fun e => h2 e.symm
    simp [h1, h2, e1, e2]
theorem cnA_one (x z : Nat) : cnA [x] z = if z = x then 1 else 0 := by
  unfold cnA cn
  rw [List.take_length, List.count_cons, List.count_nil]
  by_cases h1 : z = x
  · subst h1; simp
  · have e1 : ¬ x = z := fun e => h1 e.symm
    simp [h1, e1]
set_option maxRecDepth 100000 in
set_option maxHeartbeats 2000000 in
theorem addPlane_f (n h R g : Nat) (f : Nat → Int) (w : World) (hr : RowI w 2 g R f) (h1 : 1 ≤ n) (hn : n ≤ 18) (hh : h ≤ n) (hR : R = dR n) (hf : ∀ z, z < R → 0 ≤ f z ∧ f z ≤ 100) :
    Calls Try.prog 190 #[.agg #[.int .i64 n], .slice (some ⟨g, 0, none⟩) R R, .int .i64 h] w fun e w' => (∃ v, e = .returned v) ∧ RowI w' 2 g R (fun z => f z + cnA (tuL n h) z) ∧ Below g w w' := by
  have HLt := Lib.hid (tuL_lt h1 hh)
  have HT := Lib.hid (show tuL n h = if tuH n h = 0 then [0, 1] else if 2 * tuH n h = n then [2, 3] else [dL n - 1 + tuH n h] from rfl)
  have HLn := Lib.hid (fun u => lines_f n u (by omega))
  have HRk := Lib.hid (fun b u hr => dihO_rank n b u hr)
  have hL : 2 ≤ dL n ∧ dL n ≤ 4 := by rcases dL_cases n with ⟨_, e, _⟩ | ⟨_, e, _⟩ <;> omega
  have ht : (tuH n h : Int) = min (h : Int) ((n : Int) - (h : Int)) := by unfold tuH; split <;> omega
  have htn : tuH n h ≤ n := by unfold tuH; split <;> omega
  obtain ⟨t, hte⟩ : ∃ t, t = tuH n h := ⟨_, rfl⟩
  rw [← hte] at HT ht htn
  clear hte
  rw [← hR] at HLt
  clear hR
  have w1 : IntKind.i64.wrap ((n : Int) - (h : Int)) = (n : Int) - (h : Int) := IntWalk.i64_in _ (by omega)
  have w2 : min (h : Int) ((n : Int) - (h : Int)) = (t : Int) := ht.symm
  have w3 : IntKind.i64.wrap (2 * (t : Int)) = ((2 * t : Nat) : Int) := by rw [IntWalk.i64_in _ (by omega)]; omega
  have hg := RowB.lt hr
  obtain ⟨W, hW⟩ : ∃ W, W = w.alloc (.cells #[.int .i64 n] 63) := ⟨_, rfl⟩
  have HWe := Lib.hid hW
  have HB0 := Lib.hid (show Below w.heap.size w W by rw [hW]; exact below_alloc w _)
  have HWs := Lib.hid (show W.heap.size = w.heap.size + 1 by rw [hW]; simp)
  have KW := Lib.hid (show W.cell? ⟨w.heap.size, 0, none⟩ = some (.int .i64 n) by rw [hW]; exact cell_box _ _ _)
  have HRw := Lib.hid (RowI.below hr HB0.out hg)
  have HBg := Lib.hid (HB0.out.mono (show g ≤ w.heap.size by omega))
  have HW0 := Lib.hid hr
  clear ht hW hr
  have two : ∀ x y : Nat, x ≠ y → tuL n h = [x, y] → x < R ∧ y < R := fun x y _ e => ⟨HLt.out x (by rw [e]; simp), HLt.out y (by rw [e]; simp)⟩
  by_cases h0 : t = 0
  · have e0 : tuL n h = [0, 1] := by rw [HT.out, if_pos h0]
    obtain ⟨l1, l2⟩ := two 0 1 (by decide) e0
    have b1 := hf 0 l1
    have b2 := hf 1 l2
    have k1 := KW.out
    have c0 := RowB.cell HRw.out l1
    have c1 := RowB.frozen HRw.out 0
    have hs := RowI.set HRw.out 0 (f 0 + 1)
    have c2 : (W.setCell ⟨g, 0, none⟩ (.int .i64 (f 0 + 1))).cell? ⟨g, 1, none⟩ = some (.int .i64 (f 1)) := RowB.cell hs l2
    have c3 := RowB.frozen hs 1
    have kx := (World.cell?_setCell_far W ⟨g, 0, none⟩ ⟨w.heap.size, 0, none⟩ (.int .i64 (f 0 + 1)) (by show g ≠ w.heap.size; omega)).trans k1
    have HS := Lib.hid ((RowI.set hs 1 (f 1 + 1)).congr (g := fun z => f z + cnA (tuL n h) z) (fun z _ => by
      rw [e0, cnA_two]
      by_cases z1 : z = 1
      · subst z1; simp
      · by_cases z0 : z = 0
        · subst z0; simp
        · simp [z0, z1]))
    have HB := Lib.hid ((HBg.out.setCell (p := ⟨g, 0, none⟩) (Nat.le_refl _) (.int .i64 (f 0 + 1))).setCell (p := ⟨g, 1, none⟩) (Nat.le_refl _) (.int .i64 (f 1 + 1)))
    have wf0 : IntKind.i64.wrap (f 0 + 1) = f 0 + 1 := IntWalk.i64_in _ (by omega)
    have wf1 : IntKind.i64.wrap (f 1 + 1) = f 1 + 1 := IntWalk.i64_in _ (by omega)
    have c4 := RowB.cell HW0.out l1
    have c5 := RowB.frozen HW0.out 0
    have c6 := RowB.cell HW0.out l2
    have c7 := RowB.frozen HW0.out 1
    clear hs e0 two hf
    generalize f 0 = f0 at *
    generalize f 1 = f1 at *
    have hwe := HWe.out
    clear HWe
    subst hwe
    go_enter Try.func190, Try.ntmps190
    go_wp2_with fail
    go_end0
    have hs1 := HS.out
    have hb1 := HB.out
    rw [World.setCell_alloc_past _ _ _ _ hg, World.setCell_alloc_past _ _ _ _ (by simpa using hg)] at hs1 hb1
    exact ⟨⟨_, rfl⟩, hs1, hb1⟩
  by_cases h2 : 2 * t = n
  · have e0 : tuL n h = [2, 3] := by rw [HT.out, if_neg h0, if_pos h2]
    obtain ⟨l1, l2⟩ := two 2 3 (by decide) e0
    have b1 := hf 2 l1
    have b2 := hf 3 l2
    have k1 := KW.out
    have c0 := RowB.cell HRw.out l1
    have c1 := RowB.frozen HRw.out 2
    have hs := RowI.set HRw.out 2 (f 2 + 1)
    have c2 : (W.setCell ⟨g, 2, none⟩ (.int .i64 (f 2 + 1))).cell? ⟨g, 3, none⟩ = some (.int .i64 (f 3)) := RowB.cell hs l2
    have c3 := RowB.frozen hs 3
    have kx := (World.cell?_setCell_far W ⟨g, 2, none⟩ ⟨w.heap.size, 0, none⟩ (.int .i64 (f 2 + 1)) (by show g ≠ w.heap.size; omega)).trans k1
    have HS := Lib.hid ((RowI.set hs 3 (f 3 + 1)).congr (g := fun z => f z + cnA (tuL n h) z) (fun z _ => by
      rw [e0, cnA_two]
      by_cases z1 : z = 3
      · subst z1; simp
      · by_cases z0 : z = 2
        · subst z0; simp
        · simp [z0, z1]))
    have HB := Lib.hid ((HBg.out.setCell (p := ⟨g, 2, none⟩) (Nat.le_refl _) (.int .i64 (f 2 + 1))).setCell (p := ⟨g, 3, none⟩) (Nat.le_refl _) (.int .i64 (f 3 + 1)))
    have wf0 : IntKind.i64.wrap (f 2 + 1) = f 2 + 1 := IntWalk.i64_in _ (by omega)
    have wf1 : IntKind.i64.wrap (f 3 + 1) = f 3 + 1 := IntWalk.i64_in _ (by omega)
    have c4 := RowB.cell HW0.out l1
    have c5 := RowB.frozen HW0.out 2
    have c6 := RowB.cell HW0.out l2
    have c7 := RowB.frozen HW0.out 3
    clear hs e0 two hf
    generalize f 2 = f0 at *
    generalize f 3 = f1 at *
    have hwe := HWe.out
    clear HWe
    subst hwe
    go_enter Try.func190, Try.ntmps190
    go_wp2_with fail
    go_end0
    have hs1 := HS.out
    have hb1 := HB.out
    rw [World.setCell_alloc_past _ _ _ _ hg, World.setCell_alloc_past _ _ _ _ (by simpa using hg)] at hs1 hb1
    exact ⟨⟨_, rfl⟩, hs1, hb1⟩
  · have e0 : tuL n h = [dL n + t - 1] := by rw [HT.out, if_neg h0, if_neg h2, show dL n - 1 + t = dL n + t - 1 by omega]
    have l1 := HLt.out (dL n + t - 1) (by rw [e0]; simp)
    generalize dL n = L at *
    have b1 := hf (L + t - 1) l1
    have HE := Lib.hid e0
    have HF := Lib.hid b1
    have k1 := KW.out
    clear e0 two hf b1
    have hwe := HWe.out
    clear HWe
    subst hwe
    go_enter Try.func190, Try.ntmps190
    go_wp2_with fail
    refine (HLn.out _).mono ?_
    rintro e u2 ⟨b, rfl, hrd, hb⟩
    have HB1 := Lib.hid (HBg.out.trans (hb.mono (by have := HB0.out.size; omega)))
    have HR1 := Lib.hid (RowI.below HRw.out hb (by have := HB0.out.size; omega))
    have HS1 := Lib.hid (show w.heap.size ≤ u2.heap.size by have := HB0.out.size; have := hb.size; omega)
    have HRd := Lib.hid hrd
    clear hrd hb k1
    go_wp2_with fail
    refine (HRk.out _ _ HRd.out).mono ?_
    rintro e u3 ⟨rfl, hb⟩
    have HB2 := Lib.hid (HB1.out.trans (hb.mono (by have := HS1.out; omega)))
    have HR2 := Lib.hid (RowI.below HR1.out hb (by have := HS1.out; omega))
    clear hb
    have c0 := RowB.cell HR2.out l1
    have c1 := RowB.frozen HR2.out (L + t - 1)
    have hb1 := HF.out
    have HS := Lib.hid ((RowI.set HR2.out (L + t - 1) (f (L + t - 1) + 1)).congr (g := fun z => f z + cnA (tuL n h) z) (fun z _ => by
      rw [HE.out, cnA_one]
      by_cases z1 : z = L + t - 1
      · subst z1; simp
      · simp [z1]))
    have HB := Lib.hid (HB2.out.setCell (p := ⟨g, L + t - 1, none⟩) (Nat.le_refl _) (.int .i64 (f (L + t - 1) + 1)))
    have wf0 : IntKind.i64.wrap (f (L + t - 1) + 1) = f (L + t - 1) + 1 := IntWalk.i64_in _ (by omega)
    generalize f (L + t - 1) = f0 at *
    go_wp2_with fail
    go_end0
    exact ⟨⟨_, rfl⟩, HS.out, HB.out⟩
end Go.Proofs.Ytmdmojklagmmiaa
