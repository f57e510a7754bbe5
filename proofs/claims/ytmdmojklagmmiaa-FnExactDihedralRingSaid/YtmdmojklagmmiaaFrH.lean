/- Families of rings (the program's): the ring of a family: dihedral. -/
import Derived.Test.YtmdmojklagmmiaaFpC
namespace Go.Proofs.Ytmdmojklagmmiaa
open Go.RowKit
set_option linter.unusedSimpArgs false
set_option linter.unusedVariables false
set_option maxRecDepth 100000 in
set_option maxHeartbeats 8000000 in
theorem rof_dihedral (v : Value) (code : Int) (n : Nat) (f : Nat → Nat → Nat → Int) (w : World)
    (hA : ∀ u, Below w.heap.size w u → Calls Try.prog 66 #[.iface 63 v] u fun e w' => e = .returned (.int .i64 code) ∧ Below u.heap.size u w')
    (hR : code = 0 → ∀ u, Below w.heap.size w u → Calls Try.prog 186 #[v] u fun e w' => e = .returned (.int .i64 n) ∧ Below u.heap.size u w')
    (hP : code = 0 → n ≤ 16 → ∀ u i j, Below w.heap.size w u → i < n → j < n → Calls Try.prog 185 #[v, .int .i64 i, .int .i64 j] u (RowN u n (f i j)))
    (hn : n ≤ 1000000) (hc : (Lit.int .i64 code).wf = true) :
    Calls Try.prog 40 #[.iface 63 v] w (RingRes w (rnkF code n f) (fun _ => n) (fun _ _ => n) f (codF code n f)) := by
  have HA := Lib.hid hA
  clear hA
  obtain ⟨W, hW, hW0, hWs, hKR⟩ := res_start w
  have HW0 := Lib.hid hW0
  have HWs := Lib.hid hWs
  have KR := Lib.hid hKR
  have HWe := Lib.hid hW
  clear hW hW0 hWs hKR
  by_cases hc0 : code = 0
  · have HR := Lib.hid (hR hc0)
    have HP := Lib.hid (hP hc0)
    clear hR hP
    subst hc0
    by_cases hb : 16 < n
    · have HF := Lib.hid (codF_big (n := n) (f := f) hb)
      go_enter Try.func40, Try.ntmps40
      go_wp2_with fail
      rw [← HWe.out]
      refine (HA.out _ HW0.out).mono ?_
      rintro e w1 ⟨rfl, hb1⟩
      have HB1 := Lib.hid (HW0.out.trans (hb1.mono HW0.out.size))
      have KR1 := Lib.hid (RowB.below KR.out hb1 (by rw [HWs.out]; omega))
      have HL1 := Lib.hid (show w.heap.size + 1 ≤ w1.heap.size by have := hb1.size; rw [HWs.out] at this; exact this)
      clear hb1
      go_wp2_with fail
      refine (HR.out _ HB1.out).mono ?_
      rintro e w2 ⟨rfl, hb2⟩
      have HB2 := Lib.hid (HB1.out.trans (hb2.mono HB1.out.size))
      have hr := RowB.below KR1.out hb2 (by have := HL1.out; omega)
      obtain ⟨e1, e2, e3⟩ := res_cells hr (.slice none 0 0)
      clear hb2 hr
      go_wp2_with fail
      refine bodyPost_ret (v := .tuple #[.agg #[.slice none 0 0], .int .i64 3]) (by simp [results, Try.results40, go_sem, e3]) rfl ?_
      exact ringRes_none HF.out.2 HF.out.1.symm (HB2.out.setCell (Nat.le_refl _) _)
    · have hmk := run_make_row' (P := Try.prog) 22 51 (.slice none 0 0) 24 Try.underlying22 infoTabF rfl .i64 .i64 n (by omega) (by omega)
      go_enter Try.func40, Try.ntmps40
      go_wp2_with fail
      rw [← HWe.out]
      refine (HA.out _ HW0.out).mono ?_
      rintro e w1 ⟨rfl, hb1⟩
      have HB1 := Lib.hid (HW0.out.trans (hb1.mono HW0.out.size))
      have KR1 := Lib.hid (RowB.below KR.out hb1 (by rw [HWs.out]; omega))
      have HL1 := Lib.hid (show w.heap.size + 1 ≤ w1.heap.size by have := hb1.size; rw [HWs.out] at this; exact this)
      clear hb1
      go_wp2_with fail
      refine (HR.out _ HB1.out).mono ?_
      rintro e w2 ⟨rfl, hb2⟩
      have HB2 := Lib.hid (HB1.out.trans (hb2.mono HB1.out.size))
      have KR2 := Lib.hid (RowB.below KR1.out hb2 (by have := HL1.out; omega))
      have HL2 := Lib.hid (show w.heap.size + 1 ≤ w2.heap.size by have := hb2.size; have := HL1.out; omega)
      clear hb2
      have HT0 := Lib.hid (show GrC w2.heap.size w2 (w2.alloc (.cells (madeCells #[.slice none 0 0] n) 51)) w2.heap.size n 0 (.slice none 0 0) (w2.heap.size + 1) 0 (fun _ => 0) (fun _ => 0) (fun _ _ => 0) (fun _ _ => 0) f from by
        have hr := RowB_of_rowIs (World.rowIs_made w2 (.slice none 0 0) n 51)
        refine ⟨below_alloc w2 _, Nat.le_refl _, by omega, by simp, hr.congr fun q hq => ?_, fun q hq => absurd hq (by omega), fun p q hp => absurd hp (by omega), World.ownsRow_nil _ _ _ _, fun r hr => absurd hr (by omega), fun r s hr => absurd hr (by omega)⟩
        rw [if_neg (by omega)]; split <;> rfl)
      go_wp2_with fail
      go_loopw [24] (fun x wr => ∃ (p base : Nat) (C B : Nat → Nat) (CC G : Nat → Nat → Nat), p ≤ n ∧ x = .int .i64 p ∧ GrC w2.heap.size w2 wr w2.heap.size n p (.slice none 0 0) base 0 C B CC G f) (fun x _ => n - (intOf x).toNat)
      case atStart => exact ⟨0, _, _, _, _, _, by omega, rfl, HT0.out⟩
      case round =>
        obtain ⟨p, base, C, B, CC, G, hpm, rfl, hT⟩ := hrel
        have HT := Lib.hid hT
        clear hT HT0
        by_cases hin : p < n
        · go_wp2_with fail
          go_loopw [28] (fun x wr => ∃ (q : Nat) (v : Option Addr) (cv : Nat) (CC G : Nat → Nat → Nat), q ≤ n ∧ x = .int .i64 q ∧ GrC w2.heap.size w2 wr w2.heap.size n p (.slice v q cv) base q C B CC G f) (fun x _ => n - (intOf x).toNat)
          case atStart => exact ⟨0, _, _, _, _, by omega, rfl, HT.out⟩
          case round =>
            obtain ⟨q, v', cv, CC2, G2, hq, rfl, hT⟩ := hrel
            have HT2 := Lib.hid hT
            clear hT
            by_cases hqm : q < n
            · have HBw := Lib.hid (HB2.out.trans (HT2.out.bel.mono HB2.out.size))
              have HTd := Lib.hid (HT2.out.kept (show Below wr.heap.size wr wr.drew from (Below.refl _ _).drew))
              have HPr := Lib.hid (fun u (hu : Below wr.heap.size wr u) => HP.out (by omega) u p q (HBw.out.trans (hu.mono HBw.out.size)) hin hqm)
              have k1 : wr.cell? ⟨w2.heap.size, p, none⟩ = some (.slice v' q cv) := (HT2.out.at hin).1
              have hbs := HT2.out.bs
              have htb := HT2.out.tb
              go_wp2_with fail
              go_region_law (first | (refine pushRowF _ (by rfl) _ _ (by rfl) base _ q _ (by rfl) ((HTd.out.kept HBc.out).own.alloc _) ⟨u.heap.size, 0, none⟩ (some ⟨g, 0, none⟩) n c (by rfl) (cell_one_new _ _ _) (by omega) (by have q1 := HBc.out.size; have q2 : wr.drew.heap.size = wr.heap.size := rfl; simp; omega) ?_; intro g3 c3 w3 hown3 hgr3; have HP3 := Lib.hid (HTd.out.push HBc.out HGl.out HCn.out.1 HCn.out.2 HRw.out _ hown3 hgr3); have hm3 := HTd.out.mid HBc.out hin hgr3; have hf3 := hm3.2; have hc3 := hm3.1; clear hown3 hgr3 hm3) | ((try go_simp); go_invoke; (try go_simp); go_at_call 185; refine (HPr.out _ (by exact (Below.refl _ _).drew)).mono ?_; rintro e u ⟨g, c, rfl, hcn, hcm, hgl, hrw, hbc⟩; have HCn := Lib.hid (And.intro hcn hcm); have HGl := Lib.hid hgl; have HRw := Lib.hid hrw; have HBc := Lib.hid hbc; have k3 : u.cell? ⟨w2.heap.size, p, none⟩ = some (.slice v' q cv) := ((HTd.out.kept HBc.out).at hin).1; have k4 : ∀ o, (u.alloc o).cell? ⟨w2.heap.size, p, none⟩ = some (.slice v' q cv) := fun o => (World.cell?_alloc_past (w := u) o w2.heap.size p (by have q1 := HBc.out.size; have q2 : wr.drew.heap.size = wr.heap.size := rfl; omega)).trans k3; clear hcn hcm hgl hrw hbc))
              all_goals
                clear hc3 hf3 k1 k3 k4
                go_wp2_with fail
                exact ⟨⟨q + 1, _, _, _, _, by omega, by go_num, HP3.out⟩, by simp [intOf]; omega⟩
            · obtain rfl : q = n := by omega
              obtain ⟨g3, cap, hv⟩ := Go.Joins.ownsRow_form HT2.out.own (by omega)
              have HT3 := Lib.hid (GrC.next (hv ▸ HT2.out))
              clear hv
              go_wp2_with fail
              go_roundw
              case rel => exact ⟨p + 1, _, _, _, _, _, by omega, by go_num, HT3.out⟩
              case measure => simp [intOf]; omega
        · obtain rfl : p = n := by omega
          have HD := Lib.hid HT.out.done
          have HBw := Lib.hid (HB2.out.trans (HT.out.bel.mono HB2.out.size))
          have HCb := Lib.hid (fun u (hu : Below wr.heap.size wr u) => isCube_f (some ⟨w2.heap.size, 0, none⟩) p p (fun _ => p) (fun _ _ => p) f u ((HD.out.below hu (Nat.le_refl _)).rd) (by omega) (fun _ _ => by omega) (fun _ _ _ _ => by omega))
          go_wp2_with fail
          refine (HCb.out _ (below_alloc _ _)).mono ?_
          rintro e w4 ⟨rfl, hb4⟩
          have HB4 := Lib.hid ((below_alloc wr _).trans (hb4.mono (by simp)))
          have hK4 := (hb4.cell (p := ⟨wr.heap.size, 0, none⟩) (by simp)).trans (cell_box _ _ _)
          have hr := RowB.below KR2.out (HT.out.bel.trans (HB4.out.mono HT.out.bel.size)) (by have := HL2.out; omega)
          obtain ⟨e1, e2, e3⟩ := res_cells hr (.slice none 0 0)
          obtain ⟨e1, e2, e4⟩ := res_cells hr (.slice (some ⟨w2.heap.size, 0, none⟩) p p)
          clear hb4 hr
          cases hcb : cubB p (fun _ => p) (fun _ _ => p) f
          · have HF := Lib.hid (codF_no (n := p) hb hcb)
            go_wp2_with fail
            refine bodyPost_ret (v := .tuple #[.agg #[.slice none 0 0], .int .i64 3]) (by simp [results, Try.results40, go_sem, e3]) rfl ?_
            exact ringRes_none HF.out.2 HF.out.1.symm ((HBw.out.trans (HB4.out.mono HBw.out.size)).setCell (Nat.le_refl _) _)
          · have HF := Lib.hid (codF_yes (n := p) hb hcb)
            go_wp2_with fail
            refine bodyPost_ret (v := .tuple #[.agg #[.slice (some ⟨w2.heap.size, 0, none⟩) p p], .int .i64 0]) (by simp [results, Try.results40, go_sem, e4]) rfl ?_
            exact ringRes_put (Nat.le_refl _) (by have := HL2.out; omega) (HD.out.below HB4.out (Nat.le_refl _)) HB4.out.size (HBw.out.trans (HB4.out.mono HBw.out.size)) HF.out.2 HF.out.1 _
  · clear hR hP
    have HF := Lib.hid (codF_arg (n := n) (f := f) hc0)
    go_enter Try.func40, Try.ntmps40
    go_wp2_with fail
    rw [← HWe.out]
    refine (HA.out _ HW0.out).mono ?_
    rintro e w1 ⟨rfl, hb1⟩
    have HB1 := Lib.hid (HW0.out.trans (hb1.mono HW0.out.size))
    have hr := RowB.below KR.out hb1 (by rw [HWs.out]; omega)
    obtain ⟨e1, e2, e3⟩ := res_cells hr (.slice none 0 0)
    clear hb1 hr
    go_wp2_with fail
    refine bodyPost_ret (v := .tuple #[.agg #[.slice none 0 0], .int .i64 code]) (by simp [results, Try.results40, go_sem, e3]) rfl ?_
    exact ringRes_none HF.out.2 HF.out.1.symm (HB1.out.setCell (Nat.le_refl _) _)
end Go.Proofs.Ytmdmojklagmmiaa
