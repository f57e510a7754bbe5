/- Dihedral rings (the program's): the product. -/
import Derived.Test.YtmdmojklagmmiaaDiR
namespace Go.Proofs.Ytmdmojklagmmiaa
open Go.RowKit
set_option linter.unusedSimpArgs false
set_option linter.unusedVariables false
theorem cn0_bd (l : List Nat) (z : Nat) (h : l.length ≤ 2) : 0 ≤ cnA l z ∧ cnA l z ≤ 2 := by
  have := cn_bd l l.length z; unfold cnA; omega
theorem dst_max (h k : Nat) : max ((h : Int) - (k : Int)) ((k : Int) - (h : Int)) = (dst h k : Nat) := by unfold dst; split <;> omega
theorem dst_le {n h k : Nat} (hh : 2 * h < n) (hk : 2 * k < n) : dst h k ≤ n := by unfold dst; split <;> omega
theorem lines_plus (n x y b : Nat) (u : World) (hx : x ≤ 100) (hy : y ≤ 100) (hr : RdR u (some ⟨b, 0, none⟩) (dM n) twoO) : Calls Try.prog 189 #[.agg #[.slice (some ⟨b, 0, none⟩) (dM n) (dM n)], .int .i64 x, .int .i64 y] u fun e w' => e = .returned (.int .i64 ((addO twoO (dM n) x y).toNat : Nat)) ∧ Below u.heap.size u w' := by
  have h := plus_f (some ⟨b, 0, none⟩) (dM n) (dM n) twoO x y u hr (fun _ _ => by unfold twoO; omega) (by rw [dL_prod]; rcases dL_cases n with ⟨_, e, _⟩ | ⟨_, e, _⟩ <;> omega) (by rcases dL_cases n with ⟨_, _, e⟩ | ⟨_, _, e⟩ <;> omega) (by omega) (by omega) (by omega) (by omega)
  have e : ((addO twoO (dM n) (x : Int) (y : Int)).toNat : Int) = addO twoO (dM n) x y := Int.toNat_of_nonneg (addO_line n x y).1
  rw [← e] at h
  exact h
set_option maxRecDepth 100000 in
set_option maxHeartbeats 2000000 in
theorem dihedral_product (n i j : Nat) (w : World) (h1 : 1 ≤ n) (hn : n ≤ 18) (hi : i < dR n) (hj : j < dR n) : Calls Try.prog 185 #[.agg #[.int .i64 n], .int .i64 i, .int .i64 j] w (RowN w (dR n) (diF n i j)) := by
  have HRk := Lib.hid (fun u => dih_rank n u h1 (by omega))
  have HPl := Lib.hid (fun (x : Nat) u (hx : x ≤ 100) => plane_f n x u (by omega) hx)
  have HLn := Lib.hid (fun u => lines_f n u (by omega))
  have HPs := Lib.hid (fun x y b u hx hy hr => lines_plus n x y b u hx hy hr)
  have hR : dR n ≤ 20 ∧ 2 ≤ dR n ∧ 2 ≤ dL n ∧ dL n ≤ 4 ∧ dL n ≤ dR n := by unfold dR; rcases dL_cases n with ⟨_, e, _⟩ | ⟨_, e, _⟩ <;> omega
  obtain ⟨a, ha⟩ : ∃ a, a = min i j := ⟨_, rfl⟩
  obtain ⟨b, hb⟩ : ∃ b, b = max i j := ⟨_, rfl⟩
  have m1 : min (i : Int) (j : Int) = (a : Int) := by omega
  have m2 : max (i : Int) (j : Int) = (b : Int) := by omega
  have HD := Lib.hid (fun z => by rw [diF_sort n i j z, ← ha, ← hb] : ∀ z, diF n i j z = diF n a b z)
  have hab : a ≤ b := by omega
  have hbR : b < dR n := by omega
  clear ha hb hi hj
  have HAd := Lib.hid (fun h g f u hr hh hf => addPlane_f n h (dR n) g f u hr h1 hn hh rfl hf)
  have HBp := Lib.hid (fun hl => dR_plane h1 hbR hl)
  have HAp := Lib.hid (fun hl => dR_plane (j := a) h1 (by omega) hl)
  have HC1 := Lib.hid (fun hx hy z => diF_lines (n := n) (i := a) (j := b) hx hy z)
  have HC2 := Lib.hid (fun hx hy z => diF_planes (n := n) (i := a) (j := b) hx hy z)
  have HC3 := Lib.hid (fun hx h2 hy z => diF_half (n := n) (i := a) (j := b) hx h2 hy z)
  have HC4 := Lib.hid (fun hx h2 hy z => diF_one (n := n) (i := a) (j := b) hx h2 hy z)
  have HSu := Lib.hid (addO_line n a b)
  obtain ⟨R, hRe⟩ : ∃ R, R = dR n := ⟨_, rfl⟩
  rw [← hRe] at HRk HAd hR hbR ⊢
  clear hRe
  have hmk := run_make_row' (P := Try.prog) 26 2 (.int .i64 0) 8 Try.underlying26 infoI64 rfl .i64 .i64 R (by omega) (by omega)
  go_enter Try.func185, Try.ntmps185
  go_wp2_with fail
  refine (HRk.out _).mono ?_
  rintro e w1 ⟨rfl, hb1⟩
  have HB1 := Lib.hid ((below_alloc w _).trans (hb1.mono (by simp)))
  have KW := Lib.hid ((hb1.cell (p := ⟨w.heap.size, 0, none⟩) (by simp)).trans (cell_box _ _ _))
  have HL1 := Lib.hid (show w.heap.size + 1 ≤ w1.heap.size by have := hb1.size; simpa using this)
  have HRw := Lib.hid (show RowI (w1.alloc (.cells (madeCells #[.int .i64 0] R) 2)) 2 w1.heap.size R (fun _ => 0) from (RowB_of_rowIs (World.rowIs_made w1 (.int .i64 0) R 2)))
  have HBm := Lib.hid (below_alloc w1 (.cells (madeCells #[.int .i64 0] R) 2))
  obtain ⟨W, hW⟩ : ∃ W, W = w1.alloc (.cells (madeCells #[.int .i64 0] R) 2) := ⟨_, rfl⟩
  have HWe := Lib.hid hW
  have HWs := Lib.hid (show w1.heap.size < W.heap.size by rw [hW]; simp)
  rw [← hW] at HRw HBm
  clear hb1 hW
  have KV := Lib.hid (fun u (hu : Below W.heap.size W u) => (hu.cell (p := ⟨w.heap.size, 0, none⟩) (by have := HL1.out; have := HWs.out; show w.heap.size < _; omega)).trans ((HBm.out.cell (p := ⟨w.heap.size, 0, none⟩) (by have := HL1.out; show w.heap.size < _; omega)).trans KW.out))
  go_wp2_with fail
  rw [← HWe.out]
  go_region_held3 (fun u => u.cell? ⟨w.heap.size, 0, none⟩ = some (.int .i64 n)) (first | exact KV.out _ (Below.refl _ _).drew | exact KV.out _ Z1.out | exact KV.out _ Z2.out) (first | (have q9 := Z1.out; clear q9; go_at_call 187; refine (HPl.out _ _ (by omega)).mono ?_; rintro e w3 ⟨rfl, hb⟩; have Z2 := Lib.hid (Z1.out.trans (hb.mono Z1.out.size)); clear hb) | (go_at_call 187; refine (HPl.out _ _ (by omega)).mono ?_; rintro e w2 ⟨rfl, hb⟩; have Z1 := Lib.hid (show Below W.heap.size W w2 from ⟨hb.os, hb.tape, hb.output, hb.size, hb.block⟩); clear hb))
  all_goals
    have k1 := KV.out _ Z2.out
    have HR3 := Lib.hid (RowI.below HRw.out Z2.out HWs.out)
    generalize dL n = L at *
    by_cases c1 : b < L
    · obtain ⟨s, hs⟩ : ∃ s, s = (addO twoO (dM n) (a : Int) (b : Int)).toNat := ⟨_, rfl⟩
      have HPa := Lib.hid (fun bb u hr => HPs.out a b bb u (by omega) (by omega) hr)
      rw [← hs] at HPa HC1
      have hsR : s < R := by have := HSu.out; omega
      clear HSu hs
      go_wp2_with fail
      refine (HLn.out _).mono ?_
      rintro e w4 ⟨g, rfl, hr, hb⟩
      have Z3 := Lib.hid (Z2.out.trans (hb.mono Z2.out.size))
      have HG := Lib.hid hr
      clear hr hb
      go_wp2_with fail
      refine (HPa.out _ _ HG.out).mono ?_
      rintro e w5 ⟨rfl, hb⟩
      have Z4 := Lib.hid (Z3.out.trans (hb.mono Z3.out.size))
      clear hb
      have HR5 := Lib.hid (RowI.below HRw.out Z4.out HWs.out)
      have d0 := RowB.cell HR5.out hsR
      have d1 := RowB.frozen HR5.out s
      have HS := Lib.hid ((RowI.set HR5.out s 1).congr (g := diF n i j) (fun z _ => by rw [HD.out, HC1.out (by omega) c1 z]))
      have HB := Lib.hid ((HBm.out.trans (Z4.out.mono HBm.out.size)).setCell (p := ⟨w1.heap.size, s, none⟩) (Nat.le_refl _) (.int .i64 1))
      go_wp2_with fail
      go_ret
      exact ⟨w1.heap.size, R, rfl, Nat.le_refl _, by simp only [maxLen]; omega, by have := HL1.out; omega, HS.out, HB1.out.trans (HB.out.mono HB1.out.size)⟩
    have q2 := HBp.out (by omega)
    obtain ⟨k, hk⟩ : ∃ k, k = b - L + 1 := ⟨_, rfl⟩
    rw [← hk] at q2 HC2 HC3 HC4
    have e2 : (b : Int) - (L : Int) + 1 = (k : Int) := by omega
    simp only [e2]
    by_cases c2 : L ≤ a
    · have q1 := HAp.out c2
      obtain ⟨h, hh⟩ : ∃ h, h = a - L + 1 := ⟨_, rfl⟩
      rw [← hh] at q1 HC2
      have e1 : (a : Int) - (L : Int) + 1 = (h : Int) := by omega
      simp only [e1]
      clear e1 e2 hk hh
      have m3 : IntKind.i64.wrap ((h : Int) + (k : Int)) = ((h + k : Nat) : Int) := by rw [IntWalk.i64_in _ (by omega)]; omega
      have m4 : IntKind.i64.wrap ((h : Int) - (k : Int)) = (h : Int) - (k : Int) := IntWalk.i64_in _ (by omega)
      have m5 : IntKind.i64.wrap ((k : Int) - (h : Int)) = (k : Int) - (h : Int) := IntWalk.i64_in _ (by omega)
      have m6 := dst_max h k
      have hd := dst_le q1.2 q2.2
      obtain ⟨t, ht⟩ : ∃ t, t = dst h k := ⟨_, rfl⟩
      rw [← ht] at m6 hd HC2
      clear ht
      have HX := Lib.hid (fun u hr => HAd.out (h + k) w1.heap.size (fun _ => 0) u hr (by omega) (fun z _ => by simp))
      have HN := Lib.hid (fun z => cn0_bd (tuL n (h + k)) z (tuL_len n (h + k)).2)
      go_wp2_with fail
      refine (HX.out _ HR3.out).mono ?_
      rintro e w4 ⟨⟨v, rfl⟩, hr, hb⟩
      have HR4 := Lib.hid hr
      have k2 := (hb.cell (p := ⟨w.heap.size, 0, none⟩) (by have := HL1.out; show w.heap.size < _; omega)).trans k1
      have Z4 := Lib.hid ((HBm.out.trans (Z2.out.mono HBm.out.size)).trans hb)
      clear hr hb
      go_wp2_with fail
      refine (HAd.out t w1.heap.size _ _ HR4.out hd (fun z _ => by have := HN.out z; omega)).mono ?_
      rintro e w5 ⟨⟨v', rfl⟩, hr, hb⟩
      have HS := Lib.hid (RowI.congr (g := diF n i j) hr (fun z _ => by rw [HD.out, HC2.out c2 (by omega) z]; omega))
      have HB := Lib.hid (Z4.out.trans hb)
      clear hr hb
      go_wp2_with fail
      go_ret
      exact ⟨w1.heap.size, R, rfl, Nat.le_refl _, by simp only [maxLen]; omega, by have := HL1.out; omega, HS.out, HB1.out.trans (HB.out.mono HB1.out.size)⟩
    clear e2 hk
    by_cases c3 : 2 ≤ a
    · have m3 : (n : Int).tdiv 2 = ((n / 2 : Nat) : Int) := by rw [Int.tdiv_eq_ediv_of_nonneg (by omega)]; rfl
      have q3 := Nat.mul_div_le n 2
      have q4 : k ≤ n / 2 := by omega
      obtain ⟨t, ht⟩ : ∃ t, t = n / 2 := ⟨_, rfl⟩
      rw [← ht] at m3 q3 q4 HC3
      clear ht
      have m4 : IntKind.i64.wrap (t : Int) = (t : Int) := IntWalk.i64_in _ (by omega)
      have m5 : IntKind.i64.wrap ((t : Int) - (k : Int)) = ((t - k : Nat) : Int) := by rw [IntWalk.i64_in _ (by omega)]; omega
      obtain ⟨r, hr0⟩ : ∃ r, r = t - k := ⟨_, rfl⟩
      have hrn : r ≤ n := by omega
      rw [← hr0] at m5 HC3
      clear hr0
      have HX := Lib.hid (fun u hr => HAd.out (r) w1.heap.size (fun _ => 0) u hr (by omega) (fun z _ => by simp))
      go_wp2_with fail
      refine (HX.out _ HR3.out).mono ?_
      rintro e w4 ⟨⟨v, rfl⟩, hr, hb⟩
      have HS := Lib.hid (RowI.congr (g := diF n i j) hr (fun z _ => by rw [HD.out, HC3.out (by omega) c3 (by omega) z]; omega))
      have HB := Lib.hid ((HBm.out.trans (Z2.out.mono HBm.out.size)).trans hb)
      clear hr hb
      go_wp2_with fail
      go_ret
      exact ⟨w1.heap.size, R, rfl, Nat.le_refl _, by simp only [maxLen]; omega, by have := HL1.out; omega, HS.out, HB1.out.trans (HB.out.mono HB1.out.size)⟩
    · skip
      have HX := Lib.hid (fun u hr => HAd.out (k) w1.heap.size (fun _ => 0) u hr (by omega) (fun z _ => by simp))
      go_wp2_with fail
      refine (HX.out _ HR3.out).mono ?_
      rintro e w4 ⟨⟨v, rfl⟩, hr, hb⟩
      have HS := Lib.hid (RowI.congr (g := diF n i j) hr (fun z _ => by rw [HD.out, HC4.out (by omega) (by omega) (by omega) z]; omega))
      have HB := Lib.hid ((HBm.out.trans (Z2.out.mono HBm.out.size)).trans hb)
      clear hr hb
      go_wp2_with fail
      go_ret
      exact ⟨w1.heap.size, R, rfl, Nat.le_refl _, by simp only [maxLen]; omega, by have := HL1.out; omega, HS.out, HB1.out.trans (HB.out.mono HB1.out.size)⟩
end Go.Proofs.Ytmdmojklagmmiaa
