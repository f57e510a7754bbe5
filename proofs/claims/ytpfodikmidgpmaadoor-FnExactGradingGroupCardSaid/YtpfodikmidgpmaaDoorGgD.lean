/- The table of the grading group: the program's walk. -/
import Derived.Test.YtpfodikmidgpmaaDoorGgC
import Derived.Deep.AppendLies
import Derived.Deep.RegionHeld3
import Derived.Deep.RegionLaw
namespace Go.Proofs.YtpfodikmidgpmaaDoor
open Go.RowKit
set_option linter.unusedSimpArgs false
set_option linter.unusedVariables false
theorem infoGS : (Tryd.prog.info? 38).map (fun i => (i.zero, i.size, i.bytes)) = some (some (.slice none 0 0), 1, 24) := by kernel_rfl
theorem infoGI : (Tryd.prog.info? 2).map (fun i => (i.zero, i.size, i.bytes)) = some (some (.int .i64 0), 1, 8) := by kernel_rfl
/-- one number is appended to an own row, in a region that draws its order -/
theorem pushNumS (w : World) {ops : Array Oper} {o : Oper} {a : Act} {K : Act → World → Prop} {Q : Exit → Act → World → Prop} {E : Prop} (hgd : o.guard = none) (s x : Operand)
    (ho : o.op = .call { callee := .builtin .append, args := #[s, x], argTypes := #[38, 38] })
    (base : Nat) (v : Value) (n : Nat) (xs : List Value) (hs : a.eval s = v) (hown : w.ownsRow base 2 1 v n xs)
    (ad : Addr) (y : Int) (hx : a.eval x = .slice (some ad) 1 1) (hy : ∀ j u, [Value.int .i64 y][j]? = some u → w.cell? (ad.add j) = some u) (hn : n ≤ 1000000000) (hbase : base ≤ w.heap.size)
    (h : ∀ g c w', w'.ownsRow base 2 1 (.slice (some ⟨g, 0, none⟩) (n + 1) c) (n + 1) (xs ++ [.int .i64 y]) → w.grownBy w' v.ownBlock → K (a.put o.dst (.slice (some ⟨g, 0, none⟩) (n + 1) c)) w') :
    if Region.wanted o (yielded ops a.tmps) = true then Oper.wp Tryd.prog o a w K Q else E := by
  obtain ⟨i0, hi, hz0, hz1, hz2⟩ := info_parts infoGI
  refine step_append_lies w hgd s x _ ho base 2 i0 (.int .i64 0) 1 8 Tryd.underlying38 hi hz0 hz1 hz2 rfl (by decide) v n xs hs hown ad 1 1 [.int .i64 y] hx rfl hy (fun u hu => by rw [List.mem_singleton.1 hu]; rfl) (by omega) (by unfold maxLen; omega) (by omega) hbase w.heap.size rfl ?_
  intro g c w' h1 h2 _ _
  exact h g c w' h1 h2
set_option maxRecDepth 100000 in
set_option maxHeartbeats 4000000 in
theorem gradingGroup_f (b off n c : Nat) (B O C : Nat → Nat) (f : Nat → Nat → Nat → Int) (w : World) (h : OccP w b off n B O C (occ n f)) (R : Rng n f) (hT : TzTab w) (hG : 0 < w.heap.size) :
    Calls Tryd.prog 20 #[.slice (some ⟨b, off, none⟩) n c] w fun e w' => ∃ TB C' G, e = .returned (.slice (some ⟨TB, 0, none⟩) (cpM n f) (cpM n f)) ∧ MatB w' 38 2 w.heap.size TB (cpM n f) (fun _ => cpM n f) C' G (ggF n f) ∧ Below w.heap.size w w' := by
  have h0 := R.h0
  have h16 := R.h16
  have HR := Lib.hid R
  have HO := Lib.hid h
  have HTz := Lib.hid (fun u (hu : Below w.heap.size w u) => hT.below hG hu)
  have HCo := Lib.hid (components_f b off n c B O C f w h h0 h16)
  obtain ⟨hmx, hmn, hm0⟩ := cp_max R
  have HRp := Lib.hid (fun a (ha : a < cpM n f) => rp_is R ha)
  have HLs := Lib.hid (fun i j (hi : i < n) (hj : j < n) => lst_occ R hi hj)
  have HLl := Lib.hid (fun i j (hi : i < n) (hj : j < n) => lst_is R hi hj)
  have HGg := Lib.hid (fun a b => show ggF n f a b = csN n f (adV n f) (lst n f (rpL n f a) (rpL n f b)) from rfl)
  clear h R hT hG
  obtain ⟨N, hN⟩ : ∃ N, N = csN n f (adV n f) := ⟨_, rfl⟩
  rw [← hN] at HCo hmx HRp HGg
  clear hN
  obtain ⟨m, hm⟩ : ∃ m, m = cpM n f := ⟨_, rfl⟩
  rw [← hm] at hmx hmn hm0 HRp ⊢
  clear hm
  obtain ⟨mz, hmz⟩ : ∃ z, z = mxZ N n := ⟨_, rfl⟩
  rw [← hmz] at hmx
  have HMz := Lib.hid hmz
  clear hmz
  have hmw : wrap64 (mz + 1) = (m : Int) := by rw [hmx]; simp [wrap64]; omega
  have HMw := Lib.hid hmw
  have HMn := Lib.hid (And.intro hmn hm0)
  have hmk := run_make_row' (P := Tryd.prog) 26 38 (.slice none 0 0) 24 Tryd.underlying26 infoGS rfl .i64 .i64 m (by omega) (by omega)
  go_enter Tryd.func20, Tryd.ntmps20
  go_wp2_with fail
  refine HCo.out.mono ?_
  rintro e w1 ⟨g, rfl, hgl, hrow, hb1⟩
  have HRw := Lib.hid hrow
  have HGl := Lib.hid hgl
  have HB1 := Lib.hid hb1
  clear hgl hrow hb1
  go_wp2_with fail
  refine (maxs_f (some ⟨g, 0, none⟩) n n N w1 (RowI.rd HRw.out) h0 (by omega)).mono ?_
  rintro e w2 ⟨rfl, rfl⟩
  rw [← HMz.out]
  go_wp2_with fail
  have Hmk := Lib.hid hmk
  clear hmk hmw
  have HT0 := Lib.hid (show GrT w1.heap.size w1 (w1.alloc (.cells (madeCells #[.slice none 0 0] m) 38)) w1.heap.size m 0 (.slice none 0 0) (w1.heap.size + 1) 0 (fun _ => 0) (fun _ => 0) (ggF n f) from by
    have hr := RowB_of_rowIs (World.rowIs_made w1 (.slice none 0 0) m 38)
    refine ⟨below_alloc w1 _, Nat.le_refl _, by omega, by simp, hr.congr fun q hq => ?_, fun q hq => absurd hq (by omega), fun p q hp => absurd hp (by omega), World.ownsRow_nil _ _ _ _⟩
    rw [if_neg (by omega)]; split <;> rfl)
  go_loopw [17] (fun x wr => ∃ (p base : Nat) (C2 G2 : Nat → Nat), p ≤ m ∧ x = .int .i64 p ∧ GrT w1.heap.size w1 wr w1.heap.size m p (.slice none 0 0) base 0 C2 G2 (ggF n f)) (fun x _ => m - (intOf x).toNat)
  case atStart => exact ⟨0, _, _, _, by omega, rfl, HT0.out⟩
  case round =>
    obtain ⟨p, base, C2, G2, hpm, rfl, hT⟩ := hrel
    have HT := Lib.hid hT
    clear hT HT0
    by_cases hin : p < m
    · obtain ⟨hr1, hr2, hr3, hr4⟩ := HRp.out p hin
      have HIx := Lib.hid (fun u (hu : RowI u 2 g n N) => index_at_f (some ⟨g, 0, none⟩) n n (rpL n f p) (p : Int) N u (RowI.rd hu) hr1 hr2 hr4 (by omega))
      obtain ⟨i, hi⟩ : ∃ i, i = rpL n f p := ⟨_, rfl⟩
      have HIe := Lib.hid hi
      rw [← hi] at HIx hr1
      have HI1 := Lib.hid hr1
      clear hi hr2 hr3 hr4
      have HGr := Lib.hid (fun u (hu : Below w1.heap.size w1 u) => RowI.below HRw.out hu (RowB.lt HRw.out))
      go_wp2_with fail
      refine (HIx.out _ (HGr.out _ HT.out.bel)).mono ?_
      rintro e w3 ⟨rfl, rfl⟩
      go_wp2_with fail
      go_loopw [25] (fun x wr => ∃ (q : Nat) (v : Option Addr) (cv : Nat), q ≤ m ∧ x = .int .i64 q ∧ GrT w1.heap.size w1 wr w1.heap.size m p (.slice v q cv) base q C2 G2 (ggF n f)) (fun x _ => m - (intOf x).toNat)
      case atStart => exact ⟨0, _, _, by omega, rfl, HT.out⟩
      case round =>
        obtain ⟨q, v, cv, hq, rfl, hT⟩ := hrel
        have HT2 := Lib.hid hT
        clear hT
        by_cases hqm : q < m
        · obtain ⟨hs1, hs2, hs3, hs4⟩ := HRp.out q hqm
          have HIy := Lib.hid (fun u (hu : RowI u 2 g n N) => index_at_f (some ⟨g, 0, none⟩) n n (rpL n f q) (q : Int) N u (RowI.rd hu) hs1 hs2 hs4 (by omega))
          have HX := Lib.hid (HGg.out p q)
          obtain ⟨j, hj⟩ : ∃ j, j = rpL n f q := ⟨_, rfl⟩
          rw [← hj, ← HIe.out] at HX
          rw [← hj] at HIy hs1
          clear hj hs2 hs3 hs4
          have hin1 := HI1.out
          obtain ⟨hoc0, hoc6, hctz⟩ := HLs.out i j hin1 hs1
          have hll := (HLl.out i j hin1 hs1).1
          have HBw := Lib.hid (HB1.out.trans (HT2.out.bel.mono HB1.out.size))
          have hocp := HO.out.below HBw.out (Nat.le_refl _)
          have HLe := Lib.hid (fun u (hu : TzTab u) => least_set_f (occ n f i j) hoc6 hoc0 u hu)
          rw [hctz] at HLe
          have e1 := (hocp.2 i hin1).1
          have e2 := (hocp.2 i hin1).2.2 j hs1
          obtain ⟨l, hl⟩ : ∃ l, l = lst n f i j := ⟨_, rfl⟩
          rw [← hl] at HX HLe hll
          have e3 : wr.cell? ⟨g, l, none⟩ = some (.int .i64 (N l)) := RowB.cell (HGr.out _ HT2.out.bel) hll
          have HZd := Lib.hid (HTz.out _ HBw.out.drew)
          have HTd := Lib.hid (HT2.out.kept (show Below wr.heap.size wr wr.drew from (Below.refl _ _).drew))
          have K1 := Lib.hid (show wr.drew.cell? ⟨w1.heap.size, p, none⟩ = some (.slice v q cv) from (HT2.out.at hin).1)
          have K2 := Lib.hid (fun (o : Obj) => (World.cell?_alloc_past (w := wr.drew) o w1.heap.size p (by show w1.heap.size < wr.heap.size; have := HT2.out.tb; have := HT2.out.bs; omega)).trans K1.out)
          have hbs := HT2.out.bs
          clear hl hctz hocp hoc0
          generalize occ n f i j = oc at *
          generalize N l = y at *
          generalize B i = b1 at *
          generalize O i = o1 at *
          generalize C i = c1 at *
          have E1 := Lib.hid e1
          have E2 := Lib.hid e2
          have E3 := Lib.hid e3
          clear e1 e2 e3
          go_wp2_with fail
          refine (HIy.out _ (HGr.out _ HT2.out.bel)).mono ?_
          rintro e w4 ⟨rfl, rfl⟩
          have e1 := E1.out
          have e2 := E2.out
          have e3 := E3.out
          go_wp2_with fail
          have k1 : wr.cell? ⟨w1.heap.size, p, none⟩ = some (.slice v q cv) := K1.out
          have k2 : ∀ o, (wr.alloc o).cell? ⟨w1.heap.size, p, none⟩ = some (.slice v q cv) := fun o => K2.out o
          go_region_law (first | (refine pushNumS _ (by rfl) _ _ (by rfl) base _ q _ (by rfl) (HTd.out.own.alloc _) ⟨wr.heap.size, 0, none⟩ y (by rfl) (cell_one_new _ _ _) (by omega) (by simp; omega) ?_; intro g3 c3 w3 hown3 hgr3; have HP := Lib.hid (HTd.out.push _ HX.out hown3 hgr3); have hm3 := HTd.out.mid hin hgr3; have K3 := Lib.hid hm3.1; have hf3 := hm3.2; have hc3 := hm3.1; clear hown3 hgr3 hm3) | (go_simp; go_at_call 39; refine (HLe.out _ HZd.out).mono ?_; rintro e w2 ⟨rfl, rfl⟩))
          all_goals
            clear hc3 hf3 k1 k2 e1 e2 e3
            go_wp2_with fail
            exact ⟨⟨q + 1, _, _, by omega, by go_num, HP.out⟩, by simp [intOf]; omega⟩
        · obtain rfl : q = m := by omega
          obtain ⟨g3, cap, hv⟩ := Go.Joins.ownsRow_form HT2.out.own HMn.out.2
          have HT3 := Lib.hid (GrT.next (hv ▸ HT2.out))
          clear hv
          go_wp2_with fail
          go_roundw
          case rel => exact ⟨p + 1, _, _, _, by omega, by go_num, HT3.out⟩
          case measure => simp [intOf]; omega
    · obtain rfl : p = m := by omega
      go_wp2_with fail
      go_ret
      have HD := HT.out.done
      exact ⟨_, _, _, rfl, ⟨Nat.le_trans HB1.out.size HD.hlo, HD.outer, fun i hi => ⟨Nat.le_trans HB1.out.size (HD.row i hi).1, (HD.row i hi).2⟩, HD.apart⟩, HB1.out.trans (HT.out.bel.mono HB1.out.size)⟩
end Go.Proofs.YtpfodikmidgpmaaDoor
