/- Families of rings (the program's): products of elements of a group; codes of arguments of groups. -/
import Derived.Test.YtfiilhoojoaflaaFgA
namespace Go.Proofs.Ytfiilhoojoaflaa
open Go.RowKit
set_option linter.unusedSimpArgs false
set_option linter.unusedVariables false
set_option maxHeartbeats 2000000 in
theorem group_product (a : Option Addr) (n c : Nat) (o : Nat → Int) (N i j : Nat) (w : World) (h : RdR w a n o) (ho : ∀ i, i < n → 1 ≤ o i) (hp : prodO o n = N) (hN : N ≤ 16) (hn : n ≤ 1048576) (hi : i < N) (hj : j < N) :
    Calls Try.prog 115 #[.agg #[.slice a n c], .int .i64 i, .int .i64 j] w fun e w' => ∃ g, e = .returned (.slice (some ⟨g, 0, none⟩) N N) ∧ w.heap.size ≤ g ∧ RowI w' 2 g N (grpF o n N i j) ∧ Below w.heap.size w w' := by
  have hg : gN n o = N := by
    obtain ⟨g1, g2, g3, g4, g5⟩ := gN_eq ho
    rw [szO, hp, if_pos (by omega)] at g1
    omega
  have HRk := Lib.hid (fun u (hu : Below w.heap.size w u) => group_rank a n c o u (h.below hu (Nat.le_refl _)) ho (by omega))
  rw [hg] at HRk
  have HPl := Lib.hid (fun u (hu : Below w.heap.size w u) => plus_f a n c o i j u (h.below hu (Nat.le_refl _)) ho (by omega) hn (by omega) (by omega) (by omega) (by omega))
  have hbd := addO_bd (m := n) (i : Int) (j : Int) ho
  rw [hp] at hbd
  have HGr := Lib.hid (fun k => grp_row (o := o) (n := n) hi hj k)
  obtain ⟨x, hx⟩ : ∃ x : Nat, addO o n i j = x := ⟨(addO o n i j).toNat, by omega⟩
  rw [hx] at HPl hbd HGr
  simp only [Int.toNat_natCast] at HGr
  have HV := Lib.hid (fun u => vectorWith_f N x u (by omega) (by omega))
  clear h ho hp hg hx hbd
  obtain ⟨W, hW⟩ : ∃ W, W = w.alloc (.cells #[.slice a n c] 60) := ⟨_, rfl⟩
  have HWe := Lib.hid hW
  have HW0 := Lib.hid (show Below w.heap.size w W by rw [hW]; exact below_alloc w _)
  have HWs := Lib.hid (show W.heap.size = w.heap.size + 1 by rw [hW]; simp)
  have KW := Lib.hid (show W.cell? ⟨w.heap.size, 0, none⟩ = some (.slice a n c) by rw [hW]; exact cell_box _ _ _)
  clear hW
  go_enter Try.func115, Try.ntmps115
  go_wp2_with fail
  rw [← HWe.out]
  go_region_held3 (fun u => u.cell? ⟨w.heap.size, 0, none⟩ = some (.slice a n c)) (first | exact KV.out | exact KB.out | exact KA.out | exact KW.out) (first | (have q9 := HB2.out; clear q9; go_at_call 87; refine (HV.out _).mono ?_; rintro e w5 ⟨g, rfl, hg, hr, hb⟩; have HG := Lib.hid (show w.heap.size ≤ g from Nat.le_trans HB2.out.size hg); have HR := Lib.hid hr; have HB5 := Lib.hid (HB2.out.trans (hb.mono HB2.out.size)); have KV := Lib.hid (show w5.cell? ⟨w.heap.size, 0, none⟩ = some (.slice a n c) from (hb.cell (p := ⟨w.heap.size, 0, none⟩) (by have q1 := HL2.out; show w.heap.size < _; omega)).trans KB.out); clear hg hr hb) | (have q9 := HBr.out; clear q9; go_at_call 117; refine (HPl.out _ HBr.out).mono ?_; rintro e w3 ⟨rfl, hb⟩; have HB2 := Lib.hid (HBr.out.trans (hb.mono HBr.out.size)); have HL2 := Lib.hid (show w.heap.size < w3.heap.size by have q1 := hb.size; have q2 := HLr.out; omega); have KB := Lib.hid (show w3.cell? ⟨w.heap.size, 0, none⟩ = some (.slice a n c) from (hb.cell (p := ⟨w.heap.size, 0, none⟩) (by have q2 := HLr.out; show w.heap.size < _; omega)).trans KA.out); clear hb) | (have q9 := HBp.out; clear q9; go_at_call 116; refine (HRk.out _ HBp.out).mono ?_; rintro e w3 ⟨rfl, hb⟩; have HB2 := Lib.hid (HBp.out.trans (hb.mono HBp.out.size)); have HL2 := Lib.hid (show w.heap.size < w3.heap.size by have q1 := hb.size; have q2 := HLp.out; omega); have KB := Lib.hid (show w3.cell? ⟨w.heap.size, 0, none⟩ = some (.slice a n c) from (hb.cell (p := ⟨w.heap.size, 0, none⟩) (by have q2 := HLp.out; show w.heap.size < _; omega)).trans KA.out); clear hb) | (go_at_call 116; refine (HRk.out _ (by exact HW0.out.drew)).mono ?_; rintro e w2 ⟨rfl, hb⟩; have HBr := Lib.hid (show Below w.heap.size w w2 from HW0.out.trans ((show Below W.heap.size W w2 from ⟨hb.os, hb.tape, hb.output, hb.size, hb.block⟩).mono HW0.out.size)); have HLr := Lib.hid (show w.heap.size < w2.heap.size by have q1 : W.heap.size ≤ w2.heap.size := hb.size; have q2 := HWs.out; omega); have KA := Lib.hid (show w2.cell? ⟨w.heap.size, 0, none⟩ = some (.slice a n c) from ((show Below W.heap.size W w2 from ⟨hb.os, hb.tape, hb.output, hb.size, hb.block⟩).cell (p := ⟨w.heap.size, 0, none⟩) (by have q2 := HWs.out; show w.heap.size < _; omega)).trans KW.out); clear hb) | (go_at_call 117; refine (HPl.out _ (by exact HW0.out.drew)).mono ?_; rintro e w2 ⟨rfl, hb⟩; have HBp := Lib.hid (show Below w.heap.size w w2 from HW0.out.trans ((show Below W.heap.size W w2 from ⟨hb.os, hb.tape, hb.output, hb.size, hb.block⟩).mono HW0.out.size)); have HLp := Lib.hid (show w.heap.size < w2.heap.size by have q1 : W.heap.size ≤ w2.heap.size := hb.size; have q2 := HWs.out; omega); have KA := Lib.hid (show w2.cell? ⟨w.heap.size, 0, none⟩ = some (.slice a n c) from ((show Below W.heap.size W w2 from ⟨hb.os, hb.tape, hb.output, hb.size, hb.block⟩).cell (p := ⟨w.heap.size, 0, none⟩) (by have q2 := HWs.out; show w.heap.size < _; omega)).trans KW.out); clear hb))
  all_goals
    go_wp2_with fail
    go_ret
    exact ⟨g, rfl, HG.out, HR.out.congr (fun k _ => HGr.out k), HB5.out⟩
end Go.Proofs.Ytfiilhoojoaflaa
