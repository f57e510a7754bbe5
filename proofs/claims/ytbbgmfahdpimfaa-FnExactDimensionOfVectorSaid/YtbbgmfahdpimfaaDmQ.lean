/- Integer dimensions: of the specification. -/
import Derived.Test.YtbbgmfahdpimfaaDmP
namespace Go.Proofs.Ytbbgmfahdpimfaa
open Go.RowKit
set_option linter.unusedSimpArgs false
theorem split_mil (x y : Int) (hy : 0 < y) : x / y * 1000000 + x % y * 1000000 / y = x * 1000000 / y := by
  have e := Int.mul_ediv_add_emod x y
  have h : x * 1000000 = x % y * 1000000 + y * (x / y * 1000000) := by
    generalize x / y = q at *
    generalize x % y = r at *
    subst e
    grind
  rw [h, Int.add_mul_ediv_left _ _ (by omega)]
  omega
set_option maxHeartbeats 8000000 in
set_option maxRecDepth 100000 in
theorem l04Integers_f (b off n c : Nat) (B O C : Nat → Nat) (B2 O2 C2 : Nat → Nat → Nat) (f : Nat → Nat → Nat → Int) (w : World) (h : CubeAt w b off n B O C B2 O2 C2 f) (R : Rng n f) :
    Calls Try.prog 65 #[.agg #[.slice (some ⟨b, off, none⟩) n c]] w (InRes w n f) := by
  have H := Lib.hid h
  have HRg := Lib.hid R
  have h0 := R.h0
  have h16 := R.h16
  obtain ⟨W, hW⟩ : ∃ W, W = w.alloc (.cells #[.slice (some ⟨b, off, none⟩) n c] 29) := ⟨_, rfl⟩
  have HWe := Lib.hid hW
  have HW0 := Lib.hid (show Below w.heap.size w W by rw [hW]; exact below_alloc w _)
  have HWs := Lib.hid (show W.heap.size = w.heap.size + 1 by rw [hW]; simp)
  have KW := Lib.hid (show W.cell? ⟨w.heap.size, 0, none⟩ = some (.slice (some ⟨b, off, none⟩) n c) by rw [hW]; exact cell_box _ _ _)
  clear hW h R
  go_enter Try.func65, Try.ntmps65
  go_wp2_with fail
  go_loopw [4, 5] (fun v x wr => ∃ (q g cg : Nat), q ≤ n ∧ x = .int .i64 q ∧ v = .slice (some ⟨g, 0, none⟩) q cg ∧ Acc W wr 2 (.slice (some ⟨g, 0, none⟩) q cg) q (fun _ => 1000000)) (fun _ x _ => n - (intOf x).toNat)
  case atStart => exact ⟨0, _, _, by omega, rfl, rfl, by rw [HWe.out]; simpa using Acc.start (w.alloc (.cells #[.slice (some ⟨b, off, none⟩) n c] 29)) 2 (fun _ => 1000000)⟩
  case round =>
    obtain ⟨q, g, cg, hq, rfl, rfl, hacc⟩ := hrel
    have HA := Lib.hid hacc
    clear hacc
    have e0 : wr.cell? ⟨w.heap.size, 0, none⟩ = some (.slice (some ⟨b, off, none⟩) n c) := by
      rw [HA.out.bel.cell (p := ⟨w.heap.size, 0, none⟩) (by rw [HWs.out]; show w.heap.size < _; omega)]; exact KW.out
    by_cases hqn : q < n
    · have hsz := HA.out.bel.size
      go_wp2_with (at_builtin; refine push64 _ rfl _ _ rfl W.heap.size _ q _ rfl (HA.out.own.alloc _) ⟨_, 0, none⟩ 1000000 rfl (cell_one_new _ _ _) (by omega) (by simp; omega) ?_; intro g3 c3 w3 hown3 hgr3)
      have HP := Lib.hid (HA.out.push _ rfl hown3 hgr3)
      clear hown3 hgr3
      go_roundw
      case rel => exact ⟨q + 1, g3, c3, by omega, by go_num, rfl, HP.out⟩
      case measure => simp [intOf]; omega
    · obtain rfl : q = n := by omega
      obtain ⟨hg, hcg1, hcg2, hrow⟩ := HA.out.done
      have HR0 := Lib.hid (show RowI wr 2 g q (fun _ => 1000000) from hrow)
      have HG0 := Lib.hid hg
      have HB0 := Lib.hid HA.out.bel
      have HP0 := Lib.hid (qs_start HRg.out)
      clear hrow hg HA
      go_wp2_with fail
      clear e0
      go_loopw [4, 6] (fun y x wr => ∃ (t g cg : Nat) (v : Nat → Int), t ≤ 400 ∧ x = .int .i64 t ∧ y = .slice (some ⟨g, 0, none⟩) q cg ∧ Below W.heap.size W wr ∧ W.heap.size ≤ g ∧ RowI wr 2 g q v ∧ QS q f t v) (fun _ x _ => 400 - (intOf x).toNat)
      case atStart => exact ⟨0, g, cg, _, by omega, rfl, rfl, HB0.out, HG0.out, HR0.out, HP0.out⟩
      case round =>
        obtain ⟨t, g, cg, v, ht, rfl, rfl, hbl, hg, hrow, hps⟩ := hrel
        have HB := Lib.hid hbl
        have HR := Lib.hid hrow
        have HP := Lib.hid hps
        have HG := Lib.hid hg
        have HT := Lib.hid (show Below w.heap.size w wr from HW0.out.trans (hbl.mono (by rw [HWs.out]; omega)))
        clear hbl hrow hps hg
        by_cases ht400 : t < 400
        · have hdt : decide ((t : Int) < 400) = true := by simp; omega
          have e0 : wr.cell? ⟨w.heap.size, 0, none⟩ = some (.slice (some ⟨b, off, none⟩) q c) := (HB.out.cell (p := ⟨w.heap.size, 0, none⟩) (by rw [HWs.out]; show w.heap.size < _; omega)).trans KW.out
          have hv : ∀ k, k < q → 0 ≤ v k ∧ v k ≤ 17592186044416 := fun k hk => by have := HP.out.bd k hk; omega
          have HX := Lib.hid (l04Next_f b off q c B O C B2 O2 C2 f (some ⟨g, 0, none⟩) cg v wr (H.out.below HT.out) (RowI.rd HR.out) h16 h0 HRg.out.num hv)
          have HPn := Lib.hid (qs_step HRg.out HP.out)
          have hz0 : 1000000 ≤ nxZ q f v 0 := by have := nx_zero_ge HRg.out (fun k hk => (hv k hk).1); rw [HP.out.one] at this; exact this
          have HGe := Lib.hid (fun j (hj : j < q) => nx_ge HRg.out (fun k hk => (hv k hk).1) hj)
          -- the weights are below 2 ^ 44, so that nothing gets too great
          have HZb := Lib.hid (show ∀ j, j < q → nxZ q f v j ≤ 5000000000000000 from fun j hj => by
            have h1 : ∀ k, k < q → 0 ≤ lenZ q f j k * v k ∧ lenZ q f j k * v k ≤ 256000000000000 := fun k hk => by
              have a := len_pos HRg.out hj hk
              have a2 := len_le HRg.out hj hk
              have b := HP.out.bd k hk
              have : lenZ q f j k * v k ≤ 16000 * 16000000000 := Int.mul_le_mul a2 b.2 (by omega) (by omega)
              exact ⟨Int.mul_nonneg (by omega) (by omega), by omega⟩
            have := sumZ_bd (g := fun k => lenZ q f j k * v k) (n := q) (B := 256000000000000) h1
            rw [nx_len]; omega)
          clear hv
          go_wp2_with fail
          clear e0
          refine HX.out.mono ?_
          rintro e w4 ⟨g4, rfl, hg4, hr4, hb4⟩
          have HB4 := Lib.hid (HB.out.trans (hb4.mono HB.out.size))
          have HR4 := Lib.hid hr4
          have HG4 := Lib.hid (show W.heap.size ≤ g4 from Nat.le_trans HB.out.size hg4)
          have e1 : w4.cell? ⟨g4, 0, none⟩ = some (.int .i64 (nxZ q f v 0)) := by simpa using RowB.cell HR4.out h0
          obtain ⟨y, hy⟩ : ∃ y, y = nxZ q f v 0 := ⟨_, rfl⟩
          rw [← hy] at e1 hz0 HPn HGe
          have hyb : y ≤ 256000000000 := by
            have h1 : ∀ k, k < q → 0 ≤ lenZ q f 0 k * v k ∧ lenZ q f 0 k * v k ≤ 16000000000 := fun k hk => by
              have b := HP.out.bd k hk
              rw [len_zero HRg.out hk]
              omega
            have := sumZ_bd (g := fun k => lenZ q f 0 k * v k) (n := q) (B := 16000000000) h1
            rw [hy, nx_len]; omega
          have HY := Lib.hid hy
          clear hg4 hr4 hb4 HX hy
          go_wp2_with fail
          clear e1
          go_loopw [8] (fun x wr => ∃ j : Nat, j ≤ q ∧ x = .int .i64 j ∧ Below W.heap.size W wr ∧ RowI wr 2 g4 q (fun k => if k < j then nxZ q f v k * 1000000 / y else nxZ q f v k)) (fun x _ => q - (intOf x).toNat)
          case atStart => exact ⟨0, by omega, rfl, HB4.out, HR4.out.congr fun k _ => rfl⟩
          case round =>
            obtain ⟨j, hj, rfl, hbl, hrow⟩ := hrel
            have HB5 := Lib.hid hbl
            have HR5 := Lib.hid hrow
            clear hbl hrow
            by_cases hjn : j < q
            · have e1 : wr.cell? ⟨g4, j, none⟩ = some (.int .i64 (nxZ q f v j)) := by simpa using RowB.cell HR5.out hjn
              have e2 := RowB.frozen HR5.out j
              have a1 := HGe.out j hjn
              have a2 := HZb.out j hjn
              have a3 : (0 : Int) < y := by omega
              have HSp := Lib.hid (split_mil (nxZ q f v j) y a3)
              have bb : 1000000 ≤ nxZ q f v j * 1000000 / y ∧ nxZ q f v j * 1000000 / y ≤ 16000000000 := HPn.out.bd j hjn
              obtain ⟨x, hx⟩ : ∃ x, x = nxZ q f v j := ⟨_, rfl⟩
              rw [← hx] at e1 a1 a2 HSp bb
              have HX := Lib.hid hx
              have r1 : 0 ≤ x % y ∧ x % y < y := ⟨Int.emod_nonneg _ (by omega), Int.emod_lt_of_pos _ a3⟩
              have r2 : 0 ≤ x / y ∧ x / y ≤ x := ⟨Int.ediv_nonneg (by omega) (by omega), Int.ediv_le_self _ (by omega)⟩
              have r3 : x / y ≤ 16000 := by have : x / y < 16000 + 1 := (Int.ediv_lt_iff_lt_mul a3).2 (by omega); omega
              have r4 : 0 ≤ x % y * 1000000 / y ∧ x % y * 1000000 / y < 1000000 := ⟨Int.ediv_nonneg (by omega) (by omega), (Int.ediv_lt_iff_lt_mul a3).2 (by omega)⟩
              have f1 : x.tdiv y = x / y := Int.tdiv_eq_ediv_of_nonneg (by omega)
              have f2 : x.tmod y = x % y := Int.tmod_eq_emod_of_nonneg (by omega)
              have f3 : IntKind.i64.wrap (x / y) = x / y := IntWalk.i64_in _ (by omega)
              have f4 : IntKind.i64.wrap (x % y) = x % y := IntWalk.i64_in _ (by omega)
              have f5 : IntKind.i64.wrap (x / y * 1000000) = x / y * 1000000 := IntWalk.i64_in _ (by omega)
              have f6 : IntKind.i64.wrap (x % y * 1000000) = x % y * 1000000 := IntWalk.i64_in _ (by omega)
              have f7 : (x % y * 1000000).tdiv y = x % y * 1000000 / y := Int.tdiv_eq_ediv_of_nonneg (by omega)
              have f8 : IntKind.i64.wrap (x % y * 1000000 / y) = x % y * 1000000 / y := IntWalk.i64_in _ (by omega)
              have f9 : IntKind.i64.wrap (x / y * 1000000 + x % y * 1000000 / y) = x * 1000000 / y := by rw [HSp.out]; exact IntWalk.i64_in _ (by omega)
              have z1 : ¬ y = 0 := by omega
              have z2 : (y == 0) = false := by simp; omega
              obtain ⟨u, hu⟩ : ∃ u, u = x * 1000000 / y := ⟨_, rfl⟩
              rw [← hu] at f9 bb
              have HU := Lib.hid hu
              have hm1 : decide ((100000000000 : Int) < u) = false := decide_eq_false (by omega)
              have hm2 : decide ((1 : Int) < u) = true := decide_eq_true (by omega)
              have hm3 : ¬ (100000000000 : Int) < u := by omega
              have hm4 : (1 : Int) < u := by omega
              have hm5 : ¬ (u < (1 : Int)) := by omega
              have hm6 : u < (100000000000 : Int) := by omega
              clear hx hu r1 r2 r3 r4 a1 a2
              go_wp2_with fail
              go_still_tail 20, (by kernel_rfl)
              change wpList _ _ _ _ _ wr.drew
              have HBq := Lib.hid (show Below W.heap.size W wr.drew from HB5.out.drew)
              have HRq := Lib.hid (show RowI wr.drew 2 g4 q _ from HR5.out)
              have d1 : wr.drew.cell? ⟨g4, j, none⟩ = some (.int .i64 x) := e1
              have d2 : wr.drew.frozen? ⟨g4, j, none⟩ = false := e2
              obtain ⟨wq, hwq⟩ : ∃ v, v = wr.drew := ⟨_, rfl⟩
              rw [← hwq] at HBq HRq d1 d2 ⊢
              clear hwq e1 e2
              go_wp2_with fail
              have HR6 := Lib.hid ((RowI.set (RowI.set HRq.out j u) j u).congr (g := fun k => if k < j + 1 then nxZ q f v k * 1000000 / y else nxZ q f v k) fun k hk => by
                by_cases e : k = j
                · subst e; simp only [if_pos, if_pos (show k < k + 1 by omega)]; rw [HU.out, HX.out]
                · simp only [if_neg e]
                  by_cases e' : k < j
                  · rw [if_pos e', if_pos (by omega)]
                  · rw [if_neg e', if_neg (by omega)])
              exact ⟨⟨j + 1, by omega, by go_num, (HBq.out.setCell HG4.out _).setCell HG4.out _, HR6.out⟩, by simp [intOf]; omega⟩
            · obtain rfl : j = q := by omega
              have HR6 := Lib.hid (HR5.out.congr (g := fun k => nxZ j f v k * 1000000 / y) fun k hk => if_pos hk)
              go_wp2_with fail
              exact ⟨⟨t + 1, g4, j, _, by omega, by go_num, rfl, HB5.out, HG4.out, HR6.out, HPn.out⟩, by simp [intOf]; omega⟩
        · obtain rfl : t = 400 := by omega
          have HD := Lib.hid (qs_end HRg.out HP.out)
          have HAc := Lib.hid (Acc.start wr 2 (fun k => (v k + 500000) / 1000000))
          go_wp2_with fail
          obtain ⟨wo, hwo⟩ : ∃ x, x = wr := ⟨_, rfl⟩
          subst hwo
          go_loopw [9, 10] (fun y x wr => ∃ (k ga ca : Nat), k ≤ q ∧ x = .int .i64 k ∧ y = .slice (some ⟨ga, 0, none⟩) k ca ∧ Acc wo wr 2 (.slice (some ⟨ga, 0, none⟩) k ca) k (fun k => (v k + 500000) / 1000000)) (fun _ x _ => q - (intOf x).toNat)
          case atStart => exact ⟨0, _, _, by omega, rfl, rfl, HAc.out⟩
          case round =>
            obtain ⟨k, ga, ca, hk, rfl, rfl, hacc⟩ := hrel
            have HA := Lib.hid hacc
            clear hacc
            have HTr := Lib.hid (show Below w.heap.size w wr from HT.out.trans (HA.out.bel.mono HT.out.size))
            have HRr := Lib.hid (show RowI wr 2 g q v from RowB.below HR.out HA.out.bel (RowB.lt HR.out))
            by_cases hkn : k < q
            · have e1 : wr.cell? ⟨g, k, none⟩ = some (.int .i64 (v k)) := by simpa using RowB.cell HRr.out hkn
              have b1 := HP.out.bd k hkn
              obtain ⟨x, hx⟩ : ∃ x, x = v k := ⟨_, rfl⟩
              rw [← hx] at e1 b1
              have HE := Lib.hid (show (v k + 500000) / 1000000 = (x + 500000) / 1000000 by rw [hx])
              have f3 : IntKind.i64.wrap (x + 500000) = x + 500000 := IntWalk.i64_in _ (by omega)
              have f4 : (x + 500000).tdiv 1000000 = (x + 500000) / 1000000 := Int.tdiv_eq_ediv_of_nonneg (by omega)
              have f5 : IntKind.i64.wrap ((x + 500000) / 1000000) = (x + 500000) / 1000000 := IntWalk.i64_in _ (by omega)
              have hsz := HA.out.bel.size
              clear hx b1
              go_wp2_with (at_builtin; refine push64 _ rfl _ _ rfl wo.heap.size _ k _ rfl (HA.out.own.alloc _) ⟨_, 0, none⟩ ((x + 500000) / 1000000) rfl (cell_one_new _ _ _) (by omega) (by simp; omega) ?_; intro g3 c3 w3 hown3 hgr3)
              have HPu := Lib.hid (HA.out.push _ HE.out hown3 hgr3)
              clear hown3 hgr3
              go_roundw
              case rel => exact ⟨.slice (some ⟨g3, 0, none⟩) (k + 1) c3, .int .i64 ((k : Int) + 1), _, _, _, _, _, _, _, _, _, _, _, _, _, _, _, ⟨k + 1, g3, c3, by omega, by go_num, rfl, HPu.out⟩, rfl⟩
              case measure => simp [intOf]; omega
            · obtain rfl : k = q := by omega
              obtain ⟨hg, hcg1, hcg2, hrow⟩ := HA.out.done
              have HRw := Lib.hid hrow
              have HGw := Lib.hid (show w.heap.size ≤ ga from Nat.le_trans HT.out.size hg)
              have e0 : wr.cell? ⟨w.heap.size, 0, none⟩ = some (.slice (some ⟨b, off, none⟩) k c) := by
                rw [(HB.out.trans (HA.out.bel.mono HB.out.size)).cell (p := ⟨w.heap.size, 0, none⟩) (by rw [HWs.out]; show w.heap.size < _; omega)]; exact KW.out
              have HI := Lib.hid (l04Is_f b off k c B O C B2 O2 C2 f (some ⟨ga, 0, none⟩) ca _ wr (H.out.below HTr.out) (RowI.rd HRw.out) h16 h0 HRg.out.num (fun q hq => by
                have h9 : 0 ≤ (v q + 500000) / 1000000 ∧ (v q + 500000) / 1000000 ≤ 40000 := HD.out.2 q hq
                show 0 ≤ (v q + 500000) / 1000000 ∧ (v q + 500000) / 1000000 ≤ 1000000
                omega))
              rw [near_is HD.out] at HI
              clear hrow hg HA
              cases hdm : dmB k f
              · rw [hdm] at HI
                have HM := Lib.hid hdm
                clear hdm
                go_wp2_with fail
                clear e0
                refine HI.out.mono ?_
                rintro e w2 ⟨rfl, hb2⟩
                have HB2 := Lib.hid (HTr.out.trans (hb2.mono HTr.out.size))
                clear hb2
                go_wp2_with fail
                go_ret2
                exact Or.inr ⟨HM.out, _, rfl, HB2.out⟩
              · rw [hdm] at HI
                have HM := Lib.hid hdm
                clear hdm
                go_wp2_with fail
                clear e0
                refine HI.out.mono ?_
                rintro e w2 ⟨rfl, hb2⟩
                have HB2 := Lib.hid (HTr.out.trans (hb2.mono HTr.out.size))
                have HR2 := Lib.hid (show RowI w2 2 ga k (dmZ k f) from (RowI.below HRw.out hb2 (RowB.lt HRw.out)).congr (near_eq HD.out HM.out))
                clear hb2
                go_wp2_with fail
                go_ret2
                exact Or.inl ⟨HM.out, ga, ca, rfl, HGw.out, HR2.out, HB2.out⟩
end Go.Proofs.Ytbbgmfahdpimfaa
