/- Dihedral rings (the program's): the group of lines, the number of labels, planes. -/
import Derived.Test.YtmdmojklagmmiaaDiA
import Derived.Test.YtmdmojklagmmiaaFgA
namespace Go.Proofs.Ytmdmojklagmmiaa
open Go.RowKit
set_option linter.unusedSimpArgs false
set_option linter.unusedVariables false
set_option maxRecDepth 100000 in
set_option maxHeartbeats 1000000 in
theorem lines_f (n : Nat) (w : World) (hn : n ≤ 100) : Calls Try.prog 188 #[.agg #[.int .i64 n]] w fun e w' => ∃ b, e = .returned (.agg #[.slice (some ⟨b, 0, none⟩) (dM n) (dM n)]) ∧ RdR w' (some ⟨b, 0, none⟩) (dM n) twoO ∧ Below w.heap.size w w' := by
  have HGo := Lib.hid (fun (a : Option Addr) (k c : Nat) u => groupOf_f a k c u)
  obtain ⟨W, hW⟩ : ∃ W, W = (w.alloc (.cells #[.int .i64 n] 63)).alloc (.cells #[.slice none 0 0] 114) := ⟨_, rfl⟩
  have HW0 := Lib.hid (show Below w.heap.size w W by rw [hW]; exact ((Below.refl _ _).alloc (Nat.le_refl _) _).alloc (by simp) _)
  have HWs := Lib.hid (show W.heap.size = w.heap.size + 2 by rw [hW]; simp)
  have KW := Lib.hid (show W.cell? ⟨w.heap.size, 0, none⟩ = some (.int .i64 n) by rw [hW, World.cell?_alloc_lt _ _ _ (by simp)]; exact cell_box _ _ _)
  have KR := Lib.hid (show RowB W 114 (w.heap.size + 1) 1 (fun _ => .slice none 0 0) by
    rw [hW]
    have := row_one (w.alloc (.cells #[.int .i64 n] 63)) (.slice none 0 0) 114
    simp only [World.size_alloc] at this
    exact this)
  have HWe := Lib.hid hW
  clear hW
  rcases dL_cases n with ⟨e, _, h2⟩ | ⟨e, _, h2⟩
  · rw [h2]
    have e1 : (n : Int).tmod 2 = 0 := by rw [Int.tmod_eq_emod_of_nonneg (by omega)]; omega
    have HL := Lib.hid (show RowI (W.alloc (.cells #[.int .i64 2, .int .i64 2] 2)) 2 (w.heap.size + 1 + 1) 2 twoO from by
      have h9 := lit_two W 2 2
      rw [HWs.out] at h9
      exact RowI.congr h9 (fun i _ => by unfold twoO; split <;> rfl))
    have HBl := Lib.hid (below_alloc W (.cells #[.int .i64 2, .int .i64 2] 2))
    have k1 := KW.out
    clear e h2
    go_enter Try.func188, Try.ntmps188
    go_wp2_with fail
    rw [← HWe.out]
    go_wp2_with fail
    refine (HGo.out _ _ _ _).mono ?_
    rintro e w2 ⟨rfl, hb2⟩
    have HB2 := Lib.hid (HBl.out.trans (hb2.mono HBl.out.size))
    have HR := Lib.hid (RowI.below HL.out hb2 (by simp; have := HWs.out; omega))
    have hr := RowB.below KR.out HB2.out (by rw [HWs.out]; omega)
    obtain ⟨e1, e2, e3⟩ := res_cells hr (.slice (some ⟨w.heap.size + 1 + 1, 0, none⟩) 2 2)
    clear hb2 hr
    go_wp2_with fail
    refine bodyPost_ret (v := .agg #[.slice (some ⟨w.heap.size + 1 + 1, 0, none⟩) 2 2]) (by simp [results, Try.results188, go_sem, e3]) rfl ?_
    refine ⟨w.heap.size + 1 + 1, rfl, RowI.rd (show RowI _ 2 (w.heap.size + 1 + 1) 2 twoO from RowB.setOther HR.out (a := ⟨w.heap.size + 1, 0, none⟩) (by show w.heap.size + 1 + 1 ≠ w.heap.size + 1; omega) _), ?_⟩
    exact (HW0.out.trans (HB2.out.mono HW0.out.size)).setCell (p := ⟨w.heap.size + 1, 0, none⟩) (by simp) _
  · rw [h2]
    have e1 : (n : Int).tmod 2 = 1 := by rw [Int.tmod_eq_emod_of_nonneg (by omega)]; omega
    have HL := Lib.hid (show RowI (W.alloc (.cells #[.int .i64 2] 2)) 2 (w.heap.size + 1 + 1) 1 twoO from by
      have h9 := lit_one W 2
      rw [HWs.out] at h9
      exact RowI.congr h9 (fun i _ => by unfold twoO; rfl))
    have HBl := Lib.hid (below_alloc W (.cells #[.int .i64 2] 2))
    have k1 := KW.out
    clear e h2
    go_enter Try.func188, Try.ntmps188
    go_wp2_with fail
    rw [← HWe.out]
    go_wp2_with fail
    refine (HGo.out _ _ _ _).mono ?_
    rintro e w2 ⟨rfl, hb2⟩
    have HB2 := Lib.hid (HBl.out.trans (hb2.mono HBl.out.size))
    have HR := Lib.hid (RowI.below HL.out hb2 (by simp; have := HWs.out; omega))
    have hr := RowB.below KR.out HB2.out (by rw [HWs.out]; omega)
    obtain ⟨e1, e2, e3⟩ := res_cells hr (.slice (some ⟨w.heap.size + 1 + 1, 0, none⟩) 1 1)
    clear hb2 hr
    go_wp2_with fail
    refine bodyPost_ret (v := .agg #[.slice (some ⟨w.heap.size + 1 + 1, 0, none⟩) 1 1]) (by simp [results, Try.results188, go_sem, e3]) rfl ?_
    refine ⟨w.heap.size + 1 + 1, rfl, RowI.rd (show RowI _ 2 (w.heap.size + 1 + 1) 1 twoO from RowB.setOther HR.out (a := ⟨w.heap.size + 1, 0, none⟩) (by show w.heap.size + 1 + 1 ≠ w.heap.size + 1; omega) _), ?_⟩
    exact (HW0.out.trans (HB2.out.mono HW0.out.size)).setCell (p := ⟨w.heap.size + 1, 0, none⟩) (by simp) _
theorem dih_gN (n : Nat) : gN (dM n) twoO = dL n := by
  obtain ⟨g1, g2, g3, g4, g5⟩ := gN_eq (n := dM n) (o := twoO) (fun _ _ => by unfold twoO; omega)
  have h := dL_prod n
  rw [szO, h] at g1
  rcases dL_cases n with ⟨_, e, _⟩ | ⟨_, e, _⟩
  · rw [e] at g1 ⊢; rw [if_pos (by omega)] at g1; omega
  · rw [e] at g1 ⊢; rw [if_pos (by omega)] at g1; omega
theorem dihO_rank (n : Nat) (b : Nat) (u : World) (hr : RdR u (some ⟨b, 0, none⟩) (dM n) twoO) : Calls Try.prog 191 #[.agg #[.slice (some ⟨b, 0, none⟩) (dM n) (dM n)]] u fun e w' => e = .returned (.int .i64 (dL n : Nat)) ∧ Below u.heap.size u w' := by
  have h := group_rank (some ⟨b, 0, none⟩) (dM n) (dM n) twoO u hr (fun _ _ => by unfold twoO; omega) (by rcases dL_cases n with ⟨_, _, e⟩ | ⟨_, _, e⟩ <;> omega)
  rw [dih_gN] at h
  exact h
set_option maxRecDepth 100000 in
set_option maxHeartbeats 1000000 in
theorem dih_rank (n : Nat) (w : World) (h1 : 1 ≤ n) (hn : n ≤ 100) : Calls Try.prog 186 #[.agg #[.int .i64 n]] w fun e w' => e = .returned (.int .i64 (dR n : Nat)) ∧ Below w.heap.size w w' := by
  have HLn := Lib.hid (fun u => lines_f n u hn)
  have HRk := Lib.hid (fun b u hr => dihO_rank n b u hr)
  have hL : dL n ≤ 4 := by rcases dL_cases n with ⟨_, e, _⟩ | ⟨_, e, _⟩ <;> omega
  have e2 : IntKind.i64.wrap ((n : Int) - 1) = ((n - 1 : Nat) : Int) := by rw [IntWalk.i64_in _ (by omega)]; omega
  have e3 : ((n - 1 : Nat) : Int).tdiv 2 = (((n - 1) / 2 : Nat) : Int) := by rw [Int.tdiv_eq_ediv_of_nonneg (by omega)]; rfl
  have ht : (n - 1) / 2 ≤ n - 1 := Nat.div_le_self _ _
  have HD := Lib.hid (show dR n = dL n + (n - 1) / 2 from rfl)
  obtain ⟨t, hte⟩ : ∃ t, t = (n - 1) / 2 := ⟨_, rfl⟩
  rw [← hte] at e3 ht HD
  clear hte
  have e5 : IntKind.i64.wrap (t : Int) = (t : Int) := IntWalk.i64_in _ (by omega)
  have e6 : IntKind.i64.wrap ((dL n : Int) + (t : Int)) = ((dR n : Nat) : Int) := by rw [HD.out, IntWalk.i64_in _ (by omega)]; omega
  obtain ⟨n1, hn1⟩ : ∃ x, x = n - 1 := ⟨_, rfl⟩
  rw [← hn1] at e2 e3
  clear hn1
  obtain ⟨W, hW⟩ : ∃ W, W = w.alloc (.cells #[.int .i64 n] 63) := ⟨_, rfl⟩
  have HWe := Lib.hid hW
  have HW0 := Lib.hid (show Below w.heap.size w W by rw [hW]; exact below_alloc w _)
  have HWs := Lib.hid (show W.heap.size = w.heap.size + 1 by rw [hW]; simp)
  have KW := Lib.hid (fun u (hu : Below W.heap.size W u) => (hu.cell (p := ⟨w.heap.size, 0, none⟩) (by rw [HWs.out]; show w.heap.size < _; omega)).trans (show W.cell? ⟨w.heap.size, 0, none⟩ = some (.int .i64 n) by rw [hW]; exact cell_box _ _ _))
  clear hW
  go_enter Try.func186, Try.ntmps186
  go_wp2_with fail
  rw [← HWe.out]
  go_region_held3 (fun u => u.cell? ⟨w.heap.size, 0, none⟩ = some (.int .i64 n)) (first | exact KW.out _ (Below.refl _ _).drew | exact KW.out _ Z1.out | exact KW.out _ Z2.out) (first | (have q9 := Z1.out; clear q9; go_at_call 191; refine (HRk.out _ _ HR1.out).mono ?_; rintro e w3 ⟨rfl, hb⟩; have Z2 := Lib.hid (Z1.out.trans (hb.mono Z1.out.size)); clear hb) | (go_at_call 188; refine (HLn.out _).mono ?_; rintro e w2 ⟨b, rfl, hr, hb⟩; have Z1 := Lib.hid (show Below W.heap.size W w2 from ⟨hb.os, hb.tape, hb.output, hb.size, hb.block⟩); have HR1 := Lib.hid hr; clear hr hb))
  all_goals
    go_wp2_with fail
    go_ret
    exact ⟨rfl, HW0.out.trans (Z2.out.mono HW0.out.size)⟩
set_option maxRecDepth 100000 in
set_option maxHeartbeats 1000000 in
theorem plane_f (n i : Nat) (w : World) (hn : n ≤ 100) (hi : i ≤ 100) : Calls Try.prog 187 #[.agg #[.int .i64 n], .int .i64 i] w fun e w' => e = .returned (.int .i64 ((i : Int) - (dL n : Nat) + 1)) ∧ Below w.heap.size w w' := by
  have HLn := Lib.hid (fun u => lines_f n u hn)
  have HRk := Lib.hid (fun b u hr => dihO_rank n b u hr)
  have hL : dL n ≤ 4 := by rcases dL_cases n with ⟨_, e, _⟩ | ⟨_, e, _⟩ <;> omega
  generalize dL n = L at *
  have e1 : IntKind.i64.wrap ((i : Int) - (L : Int)) = (i : Int) - (L : Int) := IntWalk.i64_in _ (by omega)
  have e2 : IntKind.i64.wrap ((i : Int) - (L : Int) + 1) = (i : Int) - (L : Int) + 1 := IntWalk.i64_in _ (by omega)
  have HB0 := Lib.hid (below_alloc w (.cells #[.int .i64 n] 63))
  go_enter Try.func187, Try.ntmps187
  go_wp2_with fail
  refine (HLn.out _).mono ?_
  rintro e w2 ⟨b, rfl, hr, hb⟩
  have HB1 := Lib.hid (HB0.out.trans (hb.mono HB0.out.size))
  have HR := Lib.hid hr
  clear hr hb
  go_wp2_with fail
  refine (HRk.out _ _ HR.out).mono ?_
  rintro e w3 ⟨rfl, hb⟩
  have HB2 := Lib.hid (HB1.out.trans (hb.mono HB1.out.size))
  clear hb
  go_wp2_with fail
  go_ret
  exact ⟨rfl, HB2.out⟩
end Go.Proofs.Ytmdmojklagmmiaa
