/- Families of rings (the program's): products of rings. -/
import Derived.Test.YtfiilhoojoaflaaFpB
import Derived.Test.YtfiilhoojoaflaaFmF
import Derived.Test.YtfiilhoojoaflaaRgC
import Derived.Deep.RegionHeld3
namespace Go.Proofs.Ytfiilhoojoaflaa
open Go.RowKit
set_option linter.unusedSimpArgs false
set_option linter.unusedVariables false
theorem cells_twoP (w : World) (x y : Value) (t : TypeId) : (w.alloc (.cells #[x, y] t)).cell? ⟨w.heap.size, 0, none⟩ = some x ∧ (w.alloc (.cells #[x, y] t)).cell? ⟨w.heap.size, 1, none⟩ = some y := by
  have h : RowB (w.alloc (.cells #[x, y] t)) t w.heap.size 2 (fun i => if i = 0 then x else y) := ⟨_, heap_alloc_new w _, fun i hi => by
    match i, hi with
    | 0, _ => rfl
    | 1, _ => rfl⟩
  exact ⟨RowB.cell h (show 0 < 2 by omega), RowB.cell h (show 1 < 2 by omega)⟩
theorem prod_rank (a1 a2 : Option Addr) (n1 c1 n2 c2 : Nat) (w : World) (h1 : n1 ≤ 1000) (h2 : n2 ≤ 1000) :
    Calls Try.prog 138 #[.agg #[.slice a1 n1 c1, .slice a2 n2 c2]] w fun e w' => e = .returned (.int .i64 (n1 * n2 : Nat)) ∧ Below w.heap.size w w' := by
  have hb : n1 * n2 ≤ 1000 * 1000 := Nat.mul_le_mul h1 h2
  have hw1 : IntKind.i64.wrap ((n1 : Int) * (n2 : Int)) = ((n1 * n2 : Nat) : Int) := by rw [← Int.natCast_mul]; exact IntWalk.i64_in _ (by omega)
  obtain ⟨W, hW⟩ : ∃ W, W = w.alloc (.cells #[.slice a1 n1 c1, .slice a2 n2 c2] 75) := ⟨_, rfl⟩
  have HWe := Lib.hid hW
  have HW0 := Lib.hid (show Below w.heap.size w W by rw [hW]; exact below_alloc w _)
  have HWs := Lib.hid (show W.heap.size = w.heap.size + 1 by rw [hW]; simp)
  have KW := Lib.hid (show W.cell? ⟨w.heap.size, 0, none⟩ = some (.slice a1 n1 c1) ∧ W.cell? ⟨w.heap.size, 1, none⟩ = some (.slice a2 n2 c2) by rw [hW]; exact cells_twoP _ _ _ _)
  clear hW
  go_enter Try.func138, Try.ntmps138
  go_wp2_with fail
  rw [← HWe.out]
  go_region_held3 (fun u => u.cell? ⟨w.heap.size, 0, none⟩ = some (.slice a1 n1 c1) ∧ u.cell? ⟨w.heap.size, 1, none⟩ = some (.slice a2 n2 c2)) (first | exact KB.out | exact KA.out | exact KW.out) (first | (have q9 := HB1.out; clear q9; go_at_call 67; refine (rank_f _ _ _ _).mono ?_; rintro e w3 ⟨rfl, hb⟩; have HB2 := Lib.hid (HB1.out.trans (hb.mono HB1.out.size)); have KB := Lib.hid (show w3.cell? ⟨w.heap.size, 0, none⟩ = some (.slice a1 n1 c1) ∧ w3.cell? ⟨w.heap.size, 1, none⟩ = some (.slice a2 n2 c2) from ⟨(hb.cell (p := ⟨w.heap.size, 0, none⟩) (by have q2 := HL1.out; show w.heap.size < _; omega)).trans KA.out.1, (hb.cell (p := ⟨w.heap.size, 1, none⟩) (by have q2 := HL1.out; show w.heap.size < _; omega)).trans KA.out.2⟩); clear hb) | (go_at_call 67; refine (rank_f _ _ _ _).mono ?_; rintro e w2 ⟨rfl, hb⟩; have HB1 := Lib.hid (show Below w.heap.size w w2 from HW0.out.trans ((show Below W.heap.size W w2 from ⟨hb.os, hb.tape, hb.output, hb.size, hb.block⟩).mono HW0.out.size)); have HL1 := Lib.hid (show w.heap.size < w2.heap.size by have q1 : W.heap.size ≤ w2.heap.size := hb.size; have q2 := HWs.out; omega); have KA := Lib.hid (show w2.cell? ⟨w.heap.size, 0, none⟩ = some (.slice a1 n1 c1) ∧ w2.cell? ⟨w.heap.size, 1, none⟩ = some (.slice a2 n2 c2) from ⟨((show Below W.heap.size W w2 from ⟨hb.os, hb.tape, hb.output, hb.size, hb.block⟩).cell (p := ⟨w.heap.size, 0, none⟩) (by have q2 := HWs.out; show w.heap.size < _; omega)).trans KW.out.1, ((show Below W.heap.size W w2 from ⟨hb.os, hb.tape, hb.output, hb.size, hb.block⟩).cell (p := ⟨w.heap.size, 1, none⟩) (by have q2 := HWs.out; show w.heap.size < _; omega)).trans KW.out.2⟩); clear hb))
  all_goals
    go_wp2_with fail
    go_ret
    exact ⟨rfl, HB2.out⟩
theorem prF_at {m : Nat} {fa fb : Nat → Nat → Nat → Int} {i j p q : Nat} (hq : q < m) : prF m fa fb i j (p * m + q) = fa (i / m) (j / m) p * fb (i % m) (j % m) q := by
  unfold prF
  rw [Nat.mul_comm p m, Nat.mul_add_div (by omega), Nat.div_eq_of_lt hq, Nat.add_zero, Nat.mul_add_mod, Nat.mod_eq_of_lt hq]
set_option maxRecDepth 100000 in
set_option maxHeartbeats 4000000 in
theorem prod_product (ba oa n ca : Nat) (BA OA CA : Nat → Nat) (BA2 OA2 CA2 : Nat → Nat → Nat) (fa : Nat → Nat → Nat → Int) (bb ob m cb : Nat) (BB OB CB : Nat → Nat) (BB2 OB2 CB2 : Nat → Nat → Nat) (fb : Nat → Nat → Nat → Int) (i j : Nat) (w : World)
    (ha : CubeAt w ba oa n BA OA CA BA2 OA2 CA2 fa) (hb : CubeAt w bb ob m BB OB CB BB2 OB2 CB2 fb) (hm0 : 0 < m) (hn : n ≤ 16) (hm : m ≤ 16)
    (hfa : ∀ i j k, i < n → j < n → k < n → 0 ≤ fa i j k ∧ fa i j k ≤ 1000) (hfb : ∀ i j k, i < m → j < m → k < m → 0 ≤ fb i j k ∧ fb i j k ≤ 1000) (hi : i < n * m) (hj : j < n * m) :
    Calls Try.prog 137 #[.agg #[.slice (some ⟨ba, oa, none⟩) n ca, .slice (some ⟨bb, ob, none⟩) m cb], .int .i64 i, .int .i64 j] w (RowN w (n * m) (prF m fa fb i j)) := by
  have hnm : n * m ≤ 16 * 16 := Nat.mul_le_mul hn hm
  have hn0 : 0 < n := Nat.pos_of_ne_zero fun e => by subst e; simp at hi
  have HP := Lib.hid (fun p q (hq : q < m) => prF_at (m := m) (fa := fa) (fb := fb) (i := i) (j := j) (p := p) hq)
  have x1 : i / m < n := (Nat.div_lt_iff_lt_mul hm0).2 hi
  have y1 : j / m < n := (Nat.div_lt_iff_lt_mul hm0).2 hj
  have x2 := Nat.mod_lt i hm0
  have y2 := Nat.mod_lt j hm0
  have HA := Lib.hid (fun u (hu : Below w.heap.size w u) => And.intro ((ha.below hu).row _ x1).1 (And.intro ((ha.below hu).col _ _ x1 y1).1 (fun k hk => (ha.below hu).num _ _ k x1 y1 hk)))
  have HB := Lib.hid (fun u (hu : Below w.heap.size w u) => And.intro ((hb.below hu).row _ x2).1 (And.intro ((hb.below hu).col _ _ x2 y2).1 (fun k hk => (hb.below hu).num _ _ k x2 y2 hk)))
  have HFA := Lib.hid (fun k hk => hfa _ _ k x1 y1 hk)
  have HFB := Lib.hid (fun k hk => hfb _ _ k x2 y2 hk)
  have dx : (i : Int).tdiv (m : Int) = ((i / m : Nat) : Int) := by rw [Int.tdiv_eq_ediv_of_nonneg (by omega), ← Int.natCast_ediv]
  have dy : (j : Int).tdiv (m : Int) = ((j / m : Nat) : Int) := by rw [Int.tdiv_eq_ediv_of_nonneg (by omega), ← Int.natCast_ediv]
  have ex : (i : Int).tmod (m : Int) = ((i % m : Nat) : Int) := by rw [Int.tmod_eq_emod_of_nonneg (by omega), ← Int.natCast_emod]
  have ey : (j : Int).tmod (m : Int) = ((j % m : Nat) : Int) := by rw [Int.tmod_eq_emod_of_nonneg (by omega), ← Int.natCast_emod]
  have hz : ((m : Int) == 0) = false := by simp; omega
  have hz2 : ((m : Int) = 0) = False := by simp; omega
  obtain ⟨F, hF⟩ : ∃ F, F = prF m fa fb i j := ⟨_, rfl⟩
  rw [← hF] at HP ⊢
  clear ha hb hfa hfb hF
  generalize i / m = xq at *
  generalize j / m = yq at *
  generalize i % m = xr at *
  generalize j % m = yr at *
  have wx : IntKind.i64.wrap (xq : Int) = (xq : Int) := IntWalk.i64_in _ (by omega)
  have wy : IntKind.i64.wrap (yq : Int) = (yq : Int) := IntWalk.i64_in _ (by omega)
  generalize BA xq = u1 at *
  generalize OA xq = u2 at *
  generalize CA xq = u3 at *
  generalize BA2 xq yq = u4 at *
  generalize OA2 xq yq = u5 at *
  generalize CA2 xq yq = u6 at *
  generalize BB xr = v1 at *
  generalize OB xr = v2 at *
  generalize CB xr = v3 at *
  generalize BB2 xr yr = v4 at *
  generalize OB2 xr yr = v5 at *
  generalize CB2 xr yr = v6 at *
  have HW0 := Lib.hid (below_alloc w (.cells #[.slice (some ⟨ba, oa, none⟩) n ca, .slice (some ⟨bb, ob, none⟩) m cb] 75))
  have KW := Lib.hid (show (w.alloc (.cells #[.slice (some ⟨ba, oa, none⟩) n ca, .slice (some ⟨bb, ob, none⟩) m cb] 75)).cell? ⟨w.heap.size, 0, none⟩ = some (.slice (some ⟨ba, oa, none⟩) n ca) ∧ (w.alloc (.cells #[.slice (some ⟨ba, oa, none⟩) n ca, .slice (some ⟨bb, ob, none⟩) m cb] 75)).cell? ⟨w.heap.size, 1, none⟩ = some (.slice (some ⟨bb, ob, none⟩) m cb) from cells_twoP _ _ _ _)
  go_enter Try.func137, Try.ntmps137
  go_wp2_with fail
  refine (rank_f _ _ _ _).mono ?_
  rintro e w1 ⟨rfl, hb1⟩
  have HB1 := Lib.hid (HW0.out.trans (hb1.mono (by simp)))
  have HL1 := Lib.hid (show w.heap.size < w1.heap.size by have := hb1.size; simp at this; omega)
  have K1 := Lib.hid (fun u (hu : Below w1.heap.size w1 u) => And.intro ((hu.cell (p := ⟨w.heap.size, 0, none⟩) HL1.out).trans ((hb1.cell (p := ⟨w.heap.size, 0, none⟩) (by simp)).trans KW.out.1)) ((hu.cell (p := ⟨w.heap.size, 1, none⟩) HL1.out).trans ((hb1.cell (p := ⟨w.heap.size, 1, none⟩) (by simp)).trans KW.out.2)))
  clear hb1
  go_wp2_with fail
  obtain ⟨X, hX⟩ : ∃ X, X = w1.alloc (.cells #[] 2) := ⟨_, rfl⟩
  rw [← hX]
  have HAcc := Lib.hid (show Acc w1 X 2 (.slice (some ⟨w1.heap.size, 0, none⟩) 0 0) 0 F by rw [hX]; exact Acc.start _ _ _)
  clear hX
  obtain ⟨a1, a2, a3⟩ := HA.out X (HB1.out.trans (HAcc.out.bel.mono HB1.out.size))
  obtain ⟨k1, k2⟩ := K1.out X HAcc.out.bel
  clear a3
  go_region
  clear a1 a2 k1 k2
  have HAcd := Lib.hid (HAcc.out.drew 1)
  clear HAcc
  go_wp2_with fail
  go_loopw [8, 31] (fun v x wr => ∃ p : Nat, p ≤ n ∧ x = .int .i64 p ∧ Acc w1 wr 2 v (p * m) F) (fun _ x _ => n - (intOf x).toNat)
  case atStart => exact ⟨0, by omega, rfl, by rw [Nat.zero_mul]; exact HAcd.out⟩
  case round =>
    clear HAcd
    obtain ⟨p, hp, rfl, hacc⟩ := hrel
    have HAc := Lib.hid hacc
    clear hacc
    by_cases hpn : p < n
    · obtain ⟨a1, a2, a3⟩ := HA.out wr (HB1.out.trans (HAc.out.bel.mono HB1.out.size))
      obtain ⟨b1, b2, b3⟩ := HB.out wr (HB1.out.trans (HAc.out.bel.mono HB1.out.size))
      obtain ⟨k1, k2⟩ := K1.out wr HAc.out.bel
      have a4 := a3 p hpn
      have hfa := HFA.out p hpn
      have HPp := Lib.hid (fun q (hq : q < m) => HP.out p q hq)
      clear a1 a2 a3 b3 k1
      obtain ⟨fp, hfp⟩ : ∃ z, z = fa xq yq p := ⟨_, rfl⟩
      rw [← hfp] at a4 hfa HPp
      clear hfp
      have A4 := Lib.hid a4
      have HPm := Lib.hid (show (p + 1) * m = p * m + m from Nat.succ_mul p m)
      have hpm : p * m + m ≤ 256 := by rw [← HPm.out]; exact Nat.mul_le_mul (show p + 1 ≤ 16 by omega) hm
      obtain ⟨P, hP⟩ : ∃ P, P = p * m := ⟨_, rfl⟩
      rw [← hP] at HAc HPp HPm hpm
      clear hP
      obtain ⟨wo, hwo⟩ : ∃ x, x = wr := ⟨_, rfl⟩
      subst hwo
      go_wp2_with fail
      go_region
      have HAd := Lib.hid (HAc.out.drew 1)
      clear b1 b2 k2 a4 HAc
      go_wp2_with fail
      go_loopw [8, 49] (fun v x wr => ∃ q : Nat, q ≤ m ∧ x = .int .i64 q ∧ Acc w1 wr 2 v (P + q) F) (fun _ x _ => m - (intOf x).toNat)
      case atStart => exact ⟨0, by omega, rfl, HAd.out⟩
      case round =>
        clear HAd
        obtain ⟨q, hq, rfl, hacc⟩ := hrel
        have HAc := Lib.hid hacc
        clear hacc
        by_cases hqm : q < m
        · obtain ⟨b1, b2, b3⟩ := HB.out wr (HB1.out.trans (HAc.out.bel.mono HB1.out.size))
          have b4 := b3 q hqm
          have hfb := HFB.out q hqm
          have HV := Lib.hid (HPp.out q hqm)
          clear b1 b2 b3
          obtain ⟨fq, hfq⟩ : ∃ z, z = fb xr yr q := ⟨_, rfl⟩
          rw [← hfq] at b4 hfb HV
          clear hfq
          have hm1 : 0 ≤ fp * fq := Int.mul_nonneg hfa.1 hfb.1
          have hm2 : fp * fq ≤ 1000 * 1000 := Int.mul_le_mul hfa.2 hfb.2 hfb.1 (by omega)
          obtain ⟨pq, hpq⟩ : ∃ z, z = fp * fq := ⟨_, rfl⟩
          have wpq : IntKind.i64.wrap (fp * fq) = pq := by rw [hpq]; exact IntWalk.i64_in _ (by omega)
          rw [← hpq] at HV
          have hsz := HAc.out.bel.size
          clear hpq hm1 hm2
          go_wp2_with (at_builtin; refine push64 _ rfl _ _ rfl w1.heap.size _ (P + q) _ rfl (HAc.out.own.alloc _) ⟨wr.heap.size, 0, none⟩ pq rfl (cell_one_new _ _ _) (by omega) (by simp; omega) ?_; intro g3 c3 w3 hown3 hgr3)
          have HPu := Lib.hid (HAc.out.push _ HV.out hown3 hgr3)
          clear hown3 hgr3
          go_roundw
          case rel => exact ⟨q + 1, by omega, by go_num, HPu.out⟩
          case measure => simp [intOf]; omega
        · obtain rfl : q = m := by omega
          have HN := Lib.hid (show Acc w1 wr 2 _ ((p + 1) * q) F by rw [HPm.out]; exact HAc.out)
          go_wp2_with fail
          go_roundw
          case rel => exact ⟨p + 1, by omega, by go_num, HN.out⟩
          case measure => simp [intOf]; omega
    · obtain rfl : p = n := by omega
      obtain ⟨g3, cap, hv⟩ := HAc.out.form (by omega)
      subst hv
      obtain ⟨d1, d2, d3, d4⟩ := HAc.out.done
      have HD := Lib.hid d4
      clear d4
      go_wp2_with fail
      go_ret
      exact ⟨g3, cap, rfl, d2, d3, Nat.le_trans HB1.out.size d1, HD.out, HB1.out.trans (HAc.out.bel.mono HB1.out.size)⟩
end Go.Proofs.Ytfiilhoojoaflaa
