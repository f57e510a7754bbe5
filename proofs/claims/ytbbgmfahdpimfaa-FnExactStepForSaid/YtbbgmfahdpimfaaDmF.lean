/- Bounds of a label by weights: of the specification. -/
import Derived.Test.YtbbgmfahdpimfaaDmE
namespace Go.Proofs.Ytbbgmfahdpimfaa
open Go.RowKit
set_option linter.unusedSimpArgs false
/-- the four numbers of the bounds over the first j labels -/
def bdC (T V : Nat → Int) (j q : Nat) : Int :=
  if j = 0 then 0 else if q = 0 then (fmF lessB T V j).1 else if q = 1 then (fmF lessB T V j).2 else if q = 2 then (fmF greaterB T V j).1 else (fmF greaterB T V j).2
theorem less_self (a b : Int) : lessB a b a b = false := by unfold lessB; simp
theorem greater_self (a b : Int) : greaterB a b a b = false := by unfold greaterB; simp
theorem fm_one_l (T V : Nat → Int) : fmF lessB T V (0 + 1) = (T 0, V 0) := by simp only [fmF, less_self]; rfl
theorem fm_one_g (T V : Nat → Int) : fmF greaterB T V (0 + 1) = (T 0, V 0) := by simp only [fmF, greater_self]; rfl
set_option maxHeartbeats 8000000 in
set_option maxRecDepth 100000 in
theorem l04Bounds_f (b off n c : Nat) (B O C : Nat → Nat) (B2 O2 C2 : Nat → Nat → Nat) (f : Nat → Nat → Nat → Int) (i : Nat) (a1 : Option Addr) (c1 : Nat) (v : Nat → Int) (w : World) (h : CubeAt w b off n B O C B2 O2 C2 f) (h1 : RdR w a1 n v) (hn : n ≤ 16) (h0 : 0 < n) (hf : ∀ i j k, i < n → j < n → k < n → 0 ≤ f i j k ∧ f i j k ≤ 1000) (hv : ∀ k, k < n → 0 ≤ v k ∧ v k ≤ 1000000) (hi : i < n) :
    Calls Try.prog 53 #[.agg #[.slice (some ⟨b, off, none⟩) n c], .int .i64 i, .slice a1 n c1] w fun e w' => e = .returned (bdV n f i v) ∧ Below w.heap.size w w' := by
  obtain ⟨bx, ox, rfl, hbx, hcx⟩ := h1.open h0
  have H := Lib.hid h
  have HX := Lib.hid hcx
  have HF := Lib.hid hf
  have HV := Lib.hid hv
  obtain ⟨T, hT⟩ : ∃ T, T = topZ n f i v := ⟨_, rfl⟩
  have HTd := Lib.hid hT
  obtain ⟨W, hW⟩ : ∃ W, W = ((w.alloc (.cells #[.slice (some ⟨b, off, none⟩) n c] 29)).alloc (.cells #[.int .i64 0, .int .i64 0, .int .i64 0, .int .i64 0] 37)).alloc (.cells #[.int .i64 0, .int .i64 0, .int .i64 0, .int .i64 0] 37) := ⟨_, rfl⟩
  have HW0 := Lib.hid (show Below w.heap.size w W by rw [hW]; exact ((below_alloc w _).trans ((below_alloc _ _).mono (by simp))).trans ((below_alloc _ _).mono (by simp; omega)))
  have HWs := Lib.hid (show W.heap.size = w.heap.size + 3 by rw [hW]; simp)
  have KW := Lib.hid (show W.cell? ⟨w.heap.size, 0, none⟩ = some (.slice (some ⟨b, off, none⟩) n c) by rw [hW, World.cell?_alloc_lt _ _ ⟨w.heap.size, 0, none⟩ (by simp; omega), World.cell?_alloc_lt _ _ ⟨w.heap.size, 0, none⟩ (by simp)]; exact cell_box _ _ _)
  have KR := Lib.hid (show RowI W 37 (w.heap.size + 1) 4 (fun _ => 0) by
    rw [hW]
    have := heap_alloc_new (w.alloc (.cells #[.slice (some ⟨b, off, none⟩) n c] 29)) (.cells #[.int .i64 0, .int .i64 0, .int .i64 0, .int .i64 0] 37)
    simp only [World.size_alloc] at this
    refine RowB.alloc ⟨_, this, fun i hi => ?_⟩ _
    rcases (by omega : i = 0 ∨ i = 1 ∨ i = 2 ∨ i = 3) with rfl | rfl | rfl | rfl <;> rfl)
  have KO := Lib.hid (show RowI W 37 (w.heap.size + 1 + 1) 4 (bdC T v 0) by
    rw [hW]
    have := heap_alloc_new ((w.alloc (.cells #[.slice (some ⟨b, off, none⟩) n c] 29)).alloc (.cells #[.int .i64 0, .int .i64 0, .int .i64 0, .int .i64 0] 37)) (.cells #[.int .i64 0, .int .i64 0, .int .i64 0, .int .i64 0] 37)
    simp only [World.size_alloc] at this
    refine ⟨_, this, fun i hi => ?_⟩
    rcases (by omega : i = 0 ∨ i = 1 ∨ i = 2 ∨ i = 3) with rfl | rfl | rfl | rfl <;> rfl)
  have HWe := Lib.hid hW
  clear h h1 hf hv hcx hW hT
  go_enter Try.func53, Try.ntmps53
  go_wp2_with fail
  rw [← HWe.out]
  go_loopw [8] (fun x wr => ∃ q : Nat, q ≤ n ∧ x = .int .i64 q ∧ Below (w.heap.size + 1 + 1) W wr ∧ RowI wr 37 (w.heap.size + 1 + 1) 4 (bdC T v q)) (fun x _ => n - (intOf x).toNat)
  case atStart => exact ⟨0, by omega, rfl, Below.refl _ _, KO.out⟩
  case round =>
    obtain ⟨q, hq, rfl, hbl, hr1⟩ := hrel
    obtain ⟨wo, hwo⟩ : ∃ u, u = wr := ⟨_, rfl⟩
    subst hwo
    have HB := Lib.hid hbl
    have HA1 := Lib.hid hr1
    have HT := Lib.hid (show Below w.heap.size w wo from HW0.out.trans (hbl.mono (by omega)))
    clear hbl hr1
    by_cases hqn : q < n
    · go_wp2_with fail
      go_loopw [9, 10] (fun y x wr => ∃ k : Nat, k ≤ n ∧ x = .int .i64 k ∧ y = .int .i64 (sumZ (fun k => f i q k * v k) k) ∧ Drawn wo wr) (fun _ x _ => n - (intOf x).toNat)
      case atStart => exact ⟨0, by omega, rfl, rfl, Drawn.refl _⟩
      case round =>
        obtain ⟨k, hk, rfl, rfl, hdr⟩ := hrel
        have HD := Lib.hid hdr
        have HBw := Lib.hid (show Below wo.heap.size wo wr from hdr.below)
        clear hdr
        by_cases hkn : k < n
        · have HC := Lib.hid (H.out.below HT.out)
          have e0 : wr.cell? ⟨w.heap.size, 0, none⟩ = some (.slice (some ⟨b, off, none⟩) n c) := (HD.out.cell _).trans ((HB.out.cell (p := ⟨w.heap.size, 0, none⟩) (by show w.heap.size < _; omega)).trans KW.out)
          have e1 : wr.cell? ⟨b, off + i, none⟩ = some (.slice (some ⟨B i, O i, none⟩) n (C i)) := (HD.out.cell _).trans (HC.out.row i hi).1
          have e2 : wr.cell? ⟨B i, O i + q, none⟩ = some (.slice (some ⟨B2 i q, O2 i q, none⟩) n (C2 i q)) := (HD.out.cell _).trans (HC.out.col i q hi hqn).1
          have e3 : wr.cell? ⟨B2 i q, O2 i q + k, none⟩ = some (.int .i64 (f i q k)) := (HD.out.cell _).trans (HC.out.num i q k hi hqn hkn)
          have e4 : wr.cell? ⟨bx, ox + k, none⟩ = some (.int .i64 (v k)) := (HD.out.cell _).trans ((HT.out.cell (p := ⟨bx, ox + k, none⟩) hbx).trans (HX.out k hkn))
          have hb1 : ∀ l, l < n → 0 ≤ f i q l * v l ∧ f i q l * v l ≤ 1000000000 := fun l hl => by
            have a := HF.out i q l hi hqn hl
            have b := HV.out l hl
            have : f i q l * v l ≤ 1000 * 1000000 := Int.mul_le_mul a.2 b.2 b.1 (by omega)
            exact ⟨Int.mul_nonneg a.1 b.1, by omega⟩
          have q1 := hb1 k hkn
          have q2 := sumZ_bd (g := fun k => f i q k * v k) (n := k) (B := 1000000000) (fun l hl => hb1 l (by omega))
          have HN := Lib.hid (show sumZ (fun k => f i q k * v k) (k + 1) = sumZ (fun k => f i q k * v k) k + f i q k * v k from rfl)
          generalize sumZ (fun k => f i q k * v k) k = S at *
          generalize v k = vk at *
          generalize f i q k = fk at *
          have f1 : IntKind.i64.wrap (fk * vk) = fk * vk := IntWalk.i64_in _ (by omega)
          have f2 : IntKind.i64.wrap (S + fk * vk) = S + fk * vk := IntWalk.i64_in _ (by omega)
          clear hb1 q1 q2
          generalize B i = b3 at *
          generalize O i = o3 at *
          generalize C i = c3 at *
          generalize B2 i q = b4 at *
          generalize O2 i q = o4 at *
          generalize C2 i q = c4 at *
          go_wp2_with fail
          go_still_tail 18, (by kernel_rfl)
          change wpList _ _ _ _ _ wr.drew
          go_wp2_with fail
          exact ⟨⟨k + 1, by omega, by go_num, by rw [HN.out], HD.out.more 1⟩, by simp [intOf]; omega⟩
        · obtain rfl : k = n := by omega
          have hTq := Lib.hid (show T q = sumZ (fun l => f i q l * v l) k by rw [HTd.out]; rfl)
          have hbd := top_bd hn HF.out HV.out hi hqn
          have hvb := HV.out q hqn
          have e4wr : wr.cell? ⟨bx, ox + q, none⟩ = some (.int .i64 (v q)) := (HD.out.cell _).trans ((HT.out.cell (p := ⟨bx, ox + q, none⟩) hbx).trans (HX.out q hqn))
          have H1wr := Lib.hid (show RowI wr 37 (w.heap.size + 1 + 1) 4 (bdC T v q) from RowB.below HA1.out HBw.out (RowB.lt HA1.out))
          have HBwr := Lib.hid (show Below (w.heap.size + 1 + 1) W wr from HB.out.trans (HBw.out.mono (by have := RowB.lt HA1.out; omega)))
          rw [← HTd.out] at hbd
          rw [← hTq.out]
          have hnT : ∀ x y : Int, 0 ≤ x ∧ x ≤ 100000000000 → 0 ≤ y ∧ y ≤ 1000000 → IntKind.i64.wrap (x * y) = x * y := fun x y hx hy => by
            have : x * y ≤ 100000000000 * 1000000 := Int.mul_le_mul hx.2 hy.2 hy.1 (by omega)
            have := Int.mul_nonneg hx.1 hy.1
            exact IntWalk.i64_in _ (by omega)
          have HNT := Lib.hid hnT
          clear hnT
          by_cases hq0 : q = 0
          · subst hq0
            have hz : (((0 : Nat) : Int) == 0) = true := by simp
            have HOne := Lib.hid (And.intro (fm_one_l T v) (fm_one_g T v))
            go_wp2_with fail
            go_region
            obtain ⟨wa, hwa⟩ : ∃ u, u = wr.drew := ⟨_, rfl⟩
            have H1wa := Lib.hid (show RowI wa 37 (w.heap.size + 1 + 1) 4 (bdC T v 0) by rw [hwa]; exact H1wr.out)
            have HBwa := Lib.hid (show Below (w.heap.size + 1 + 1) W wa by rw [hwa]; exact HBwr.out.drew)
            rw [← hwa]
            clear hwa e4wr
            have e4wa : wa.cell? ⟨bx, ox, none⟩ = some (.int .i64 (v 0)) := by rw [(HW0.out.trans (HBwa.out.mono (by omega))).cell (p := ⟨bx, ox, none⟩) hbx]; simpa using HX.out 0 hqn
            have d0 := RowB.cell H1wa.out (i := 0) (by omega)
            have z0 := RowB.frozen H1wa.out 0
            have d1 := RowB.cell H1wa.out (i := 1) (by omega)
            have z1 := RowB.frozen H1wa.out 1
            go_wp2_with fail
            obtain ⟨wb, hwb⟩ : ∃ u, u = (wa.setCell ⟨(w.heap.size + 1 + 1), 0, none⟩ (.int .i64 (T 0))).setCell ⟨(w.heap.size + 1 + 1), 1, none⟩ (.int .i64 (v 0)) := ⟨_, rfl⟩
            have H1wb := Lib.hid (show RowI wb 37 (w.heap.size + 1 + 1) 4 (fun p => if p = 1 then v 0 else if p = 0 then T 0 else bdC T v 0 p) by
              rw [hwb]
              refine (RowI.set (RowI.set H1wa.out 0 (T 0)) 1 (v 0)).congr fun p hp => ?_
              rcases (by omega : p = 0 ∨ p = 1 ∨ p = 2 ∨ p = 3) with rfl | rfl | rfl | rfl <;> simp)
            have HBwb := Lib.hid (show Below (w.heap.size + 1 + 1) W wb by rw [hwb]; exact (HBwa.out.setCell (Nat.le_refl _) _).setCell (Nat.le_refl _) _)
            rw [← hwb]
            clear hwb d0 d1 z0 z1 e4wa
            have e4wb : wb.cell? ⟨bx, ox, none⟩ = some (.int .i64 (v 0)) := by rw [(HW0.out.trans (HBwb.out.mono (by omega))).cell (p := ⟨bx, ox, none⟩) hbx]; simpa using HX.out 0 hqn
            go_region
            obtain ⟨wc, hwc⟩ : ∃ u, u = wb.drew := ⟨_, rfl⟩
            have H1wc := Lib.hid (show RowI wc 37 (w.heap.size + 1 + 1) 4 (fun p => if p = 1 then v 0 else if p = 0 then T 0 else bdC T v 0 p) by rw [hwc]; exact H1wb.out)
            have HBwc := Lib.hid (show Below (w.heap.size + 1 + 1) W wc by rw [hwc]; exact HBwb.out.drew)
            rw [← hwc]
            clear hwc e4wb
            have e4wc : wc.cell? ⟨bx, ox, none⟩ = some (.int .i64 (v 0)) := by rw [(HW0.out.trans (HBwc.out.mono (by omega))).cell (p := ⟨bx, ox, none⟩) hbx]; simpa using HX.out 0 hqn
            have d2 := RowB.cell H1wc.out (i := 2) (by omega)
            have z2 := RowB.frozen H1wc.out 2
            have d3 := RowB.cell H1wc.out (i := 3) (by omega)
            have z3 := RowB.frozen H1wc.out 3
            go_wp2_with fail
            obtain ⟨wd, hwd⟩ : ∃ u, u = (wc.setCell ⟨(w.heap.size + 1 + 1), 2, none⟩ (.int .i64 (T 0))).setCell ⟨(w.heap.size + 1 + 1), 3, none⟩ (.int .i64 (v 0)) := ⟨_, rfl⟩
            have H1wd := Lib.hid (show RowI wd 37 (w.heap.size + 1 + 1) 4 (fun p => if p = 3 then v 0 else if p = 2 then T 0 else if p = 1 then v 0 else T 0) by
              rw [hwd]
              refine (RowI.set (RowI.set H1wc.out 2 (T 0)) 3 (v 0)).congr fun p hp => ?_
              rcases (by omega : p = 0 ∨ p = 1 ∨ p = 2 ∨ p = 3) with rfl | rfl | rfl | rfl <;> simp)
            have HBwd := Lib.hid (show Below (w.heap.size + 1 + 1) W wd by rw [hwd]; exact (HBwc.out.setCell (Nat.le_refl _) _).setCell (Nat.le_refl _) _)
            rw [← hwd]
            clear hwd d2 d3 z2 z3 e4wc
            have e4wd : wd.cell? ⟨bx, ox, none⟩ = some (.int .i64 (v 0)) := by rw [(HW0.out.trans (HBwd.out.mono (by omega))).cell (p := ⟨bx, ox, none⟩) hbx]; simpa using HX.out 0 hqn
            have HFin := Lib.hid (show RowI wd 37 (w.heap.size + 1 + 1) 4 (bdC T v (0 + 1)) from H1wd.out.congr fun p hp => by
              rcases (by omega : p = 0 ∨ p = 1 ∨ p = 2 ∨ p = 3) with rfl | rfl | rfl | rfl <;> simp [bdC, HOne.out.1, HOne.out.2, fm_one_l, fm_one_g])
            go_wp2_with fail
            exact ⟨⟨0 + 1, by omega, by go_num, HBwd.out, HFin.out⟩, by simp [intOf]; omega⟩
          · skip
            have hz : ((q : Int) == 0) = false := by simp; omega
            obtain ⟨il, hil, hl⟩ := fm_some lessB T v h0 q hq
            obtain ⟨ig, hig, hgr⟩ := fm_some greaterB T v h0 q hq
            have hbl := top_bd hn HF.out HV.out hi hil
            have hbg := top_bd hn HF.out HV.out hi hig
            rw [← HTd.out] at hbl hbg
            have hvl := HV.out il hil
            have hvg := HV.out ig hig
            obtain ⟨l1, hl1⟩ : ∃ x, x = (fmF lessB T v q).1 := ⟨_, rfl⟩
            obtain ⟨l2, hl2⟩ : ∃ x, x = (fmF lessB T v q).2 := ⟨_, rfl⟩
            obtain ⟨g1, hg1⟩ : ∃ x, x = (fmF greaterB T v q).1 := ⟨_, rfl⟩
            obtain ⟨g2, hg2⟩ : ∃ x, x = (fmF greaterB T v q).2 := ⟨_, rfl⟩
            have f1 : IntKind.i64.wrap (T q * l2) = T q * l2 := HNT.out _ _ hbd (by rw [hl2, hl]; exact hvl)
            have f2 : IntKind.i64.wrap (l1 * v q) = l1 * v q := HNT.out _ _ (by rw [hl1, hl]; exact hbl) hvb
            have f3 : IntKind.i64.wrap (T q * g2) = T q * g2 := HNT.out _ _ hbd (by rw [hg2, hgr]; exact hvg)
            have f4 : IntKind.i64.wrap (g1 * v q) = g1 * v q := HNT.out _ _ (by rw [hg1, hgr]; exact hbg) hvb
            have HLn := Lib.hid (show fmF lessB T v (q + 1) = if lessB (T q) (v q) l1 l2 = true then (T q, v q) else fmF lessB T v q by rw [hl1, hl2]; rfl)
            have HGn := Lib.hid (show fmF greaterB T v (q + 1) = if greaterB (T q) (v q) g1 g2 = true then (T q, v q) else fmF greaterB T v q by rw [hg1, hg2]; rfl)
            have hbq : ∀ p, p < 4 → bdC T v q p = if p = 0 then l1 else if p = 1 then l2 else if p = 2 then g1 else g2 := fun p hp => by unfold bdC; rw [if_neg hq0, hl1, hl2, hg1, hg2]
            have HBQ := Lib.hid (H1wr.out.congr hbq)
            have HL1 := Lib.hid hl1
            have HL2 := Lib.hid hl2
            have HG1 := Lib.hid hg1
            have HG2 := Lib.hid hg2
            clear hl1 hl2 hg1 hg2 hl hgr hbl hbg hvl hvg hbd hvb hbq H1wr
            have H1wr := Lib.hid HBQ.out
            have d0 : wr.cell? ⟨w.heap.size + 1 + 1, 0, none⟩ = some (.int .i64 l1) := by simpa using RowB.cell H1wr.out (i := 0) (by omega)
            have d1 : wr.cell? ⟨w.heap.size + 1 + 1, 1, none⟩ = some (.int .i64 l2) := by simpa using RowB.cell H1wr.out (i := 1) (by omega)
            go_wp2_with fail
            cases hlow : lessB (T q) (v q) l1 l2
            case true =>
              have HLn2 := Lib.hid (show fmF lessB T v (q + 1) = (T q, v q) by rw [HLn.out, hlow]; rfl)
              have hdl : decide (T q * l2 < l1 * v q) = true := hlow
              clear hlow
              go_region
              clear d0 d1
              obtain ⟨wa, hwa⟩ : ∃ u, u = wr.drew := ⟨_, rfl⟩
              have H1wa := Lib.hid (show RowI wa 37 (w.heap.size + 1 + 1) 4 (fun p => if p = 0 then l1 else if p = 1 then l2 else if p = 2 then g1 else g2) by rw [hwa]; exact H1wr.out)
              have HBwa := Lib.hid (show Below (w.heap.size + 1 + 1) W wa by rw [hwa]; exact HBwr.out.drew)
              rw [← hwa]
              clear hwa e4wr
              have e4wa : wa.cell? ⟨bx, ox + q, none⟩ = some (.int .i64 (v q)) := by rw [(HW0.out.trans (HBwa.out.mono (by omega))).cell (p := ⟨bx, ox + q, none⟩) hbx]; exact HX.out q hqn
              have d0 := RowB.cell H1wa.out (i := 0) (by omega)
              have z0 := RowB.frozen H1wa.out 0
              have d1 := RowB.cell H1wa.out (i := 1) (by omega)
              have z1 := RowB.frozen H1wa.out 1
              go_wp2_with fail
              obtain ⟨wb, hwb⟩ : ∃ u, u = (wa.setCell ⟨(w.heap.size + 1 + 1), 0, none⟩ (.int .i64 (T q))).setCell ⟨(w.heap.size + 1 + 1), 1, none⟩ (.int .i64 (v q)) := ⟨_, rfl⟩
              have H1wb := Lib.hid (show RowI wb 37 (w.heap.size + 1 + 1) 4 (fun p => if p = 1 then v q else if p = 0 then T q else if p = 2 then g1 else g2) by
                rw [hwb]
                refine (RowI.set (RowI.set H1wa.out 0 (T q)) 1 (v q)).congr fun p hp => ?_
                rcases (by omega : p = 0 ∨ p = 1 ∨ p = 2 ∨ p = 3) with rfl | rfl | rfl | rfl <;> simp)
              have HBwb := Lib.hid (show Below (w.heap.size + 1 + 1) W wb by rw [hwb]; exact (HBwa.out.setCell (Nat.le_refl _) _).setCell (Nat.le_refl _) _)
              rw [← hwb]
              clear hwb d0 d1 z0 z1 e4wa
              have e4wb : wb.cell? ⟨bx, ox + q, none⟩ = some (.int .i64 (v q)) := by rw [(HW0.out.trans (HBwb.out.mono (by omega))).cell (p := ⟨bx, ox + q, none⟩) hbx]; exact HX.out q hqn
              have d2 : wb.cell? ⟨w.heap.size + 1 + 1, 2, none⟩ = some (.int .i64 g1) := by simpa using RowB.cell H1wb.out (i := 2) (by omega)
              have d3 : wb.cell? ⟨w.heap.size + 1 + 1, 3, none⟩ = some (.int .i64 g2) := by simpa using RowB.cell H1wb.out (i := 3) (by omega)
              cases hhi : greaterB (T q) (v q) g1 g2
              · skip
                have HGn2 := Lib.hid (show fmF greaterB T v (q + 1) = fmF greaterB T v q by rw [HGn.out, hhi]; rfl)
                have hdg : decide (g1 * v q < T q * g2) = false := hhi
                clear hhi
                go_region
                clear d2 d3
                obtain ⟨wc, hwc⟩ : ∃ u, u = wb.drew := ⟨_, rfl⟩
                have H1wc := Lib.hid (show RowI wc 37 (w.heap.size + 1 + 1) 4 (fun p => if p = 1 then v q else if p = 0 then T q else if p = 2 then g1 else g2) by rw [hwc]; exact H1wb.out)
                have HBwc := Lib.hid (show Below (w.heap.size + 1 + 1) W wc by rw [hwc]; exact HBwb.out.drew)
                rw [← hwc]
                clear hwc e4wb
                have e4wc : wc.cell? ⟨bx, ox + q, none⟩ = some (.int .i64 (v q)) := by rw [(HW0.out.trans (HBwc.out.mono (by omega))).cell (p := ⟨bx, ox + q, none⟩) hbx]; exact HX.out q hqn
                have HFin := Lib.hid (show RowI wc 37 (w.heap.size + 1 + 1) 4 (bdC T v (q + 1)) from H1wc.out.congr fun p hp => by
                  rcases (by omega : p = 0 ∨ p = 1 ∨ p = 2 ∨ p = 3) with rfl | rfl | rfl | rfl <;> simp [bdC, HLn2.out, HGn2.out, HL1.out, HL2.out, HG1.out, HG2.out])
                go_wp2_with fail
                exact ⟨⟨q + 1, by omega, by go_num, HBwc.out, HFin.out⟩, by simp [intOf]; omega⟩
              · skip
                have HGn2 := Lib.hid (show fmF greaterB T v (q + 1) = (T q, v q) by rw [HGn.out, hhi]; rfl)
                have hdg : decide (g1 * v q < T q * g2) = true := hhi
                clear hhi
                go_region
                clear d2 d3
                obtain ⟨wc, hwc⟩ : ∃ u, u = wb.drew := ⟨_, rfl⟩
                have H1wc := Lib.hid (show RowI wc 37 (w.heap.size + 1 + 1) 4 (fun p => if p = 1 then v q else if p = 0 then T q else if p = 2 then g1 else g2) by rw [hwc]; exact H1wb.out)
                have HBwc := Lib.hid (show Below (w.heap.size + 1 + 1) W wc by rw [hwc]; exact HBwb.out.drew)
                rw [← hwc]
                clear hwc e4wb
                have e4wc : wc.cell? ⟨bx, ox + q, none⟩ = some (.int .i64 (v q)) := by rw [(HW0.out.trans (HBwc.out.mono (by omega))).cell (p := ⟨bx, ox + q, none⟩) hbx]; exact HX.out q hqn
                have d2 := RowB.cell H1wc.out (i := 2) (by omega)
                have z2 := RowB.frozen H1wc.out 2
                have d3 := RowB.cell H1wc.out (i := 3) (by omega)
                have z3 := RowB.frozen H1wc.out 3
                go_wp2_with fail
                obtain ⟨wd, hwd⟩ : ∃ u, u = (wc.setCell ⟨(w.heap.size + 1 + 1), 2, none⟩ (.int .i64 (T q))).setCell ⟨(w.heap.size + 1 + 1), 3, none⟩ (.int .i64 (v q)) := ⟨_, rfl⟩
                have H1wd := Lib.hid (show RowI wd 37 (w.heap.size + 1 + 1) 4 (fun p => if p = 3 then v q else if p = 2 then T q else if p = 1 then v q else T q) by
                  rw [hwd]
                  refine (RowI.set (RowI.set H1wc.out 2 (T q)) 3 (v q)).congr fun p hp => ?_
                  rcases (by omega : p = 0 ∨ p = 1 ∨ p = 2 ∨ p = 3) with rfl | rfl | rfl | rfl <;> simp)
                have HBwd := Lib.hid (show Below (w.heap.size + 1 + 1) W wd by rw [hwd]; exact (HBwc.out.setCell (Nat.le_refl _) _).setCell (Nat.le_refl _) _)
                rw [← hwd]
                clear hwd d2 d3 z2 z3 e4wc
                have e4wd : wd.cell? ⟨bx, ox + q, none⟩ = some (.int .i64 (v q)) := by rw [(HW0.out.trans (HBwd.out.mono (by omega))).cell (p := ⟨bx, ox + q, none⟩) hbx]; exact HX.out q hqn
                have HFin := Lib.hid (show RowI wd 37 (w.heap.size + 1 + 1) 4 (bdC T v (q + 1)) from H1wd.out.congr fun p hp => by
                  rcases (by omega : p = 0 ∨ p = 1 ∨ p = 2 ∨ p = 3) with rfl | rfl | rfl | rfl <;> simp [bdC, HLn2.out, HGn2.out, HL1.out, HL2.out, HG1.out, HG2.out])
                go_wp2_with fail
                exact ⟨⟨q + 1, by omega, by go_num, HBwd.out, HFin.out⟩, by simp [intOf]; omega⟩
            case false =>
              have HLn2 := Lib.hid (show fmF lessB T v (q + 1) = fmF lessB T v q by rw [HLn.out, hlow]; rfl)
              have hdl : decide (T q * l2 < l1 * v q) = false := hlow
              clear hlow
              go_region
              clear d0 d1
              obtain ⟨wa, hwa⟩ : ∃ u, u = wr.drew := ⟨_, rfl⟩
              have H1wa := Lib.hid (show RowI wa 37 (w.heap.size + 1 + 1) 4 (fun p => if p = 0 then l1 else if p = 1 then l2 else if p = 2 then g1 else g2) by rw [hwa]; exact H1wr.out)
              have HBwa := Lib.hid (show Below (w.heap.size + 1 + 1) W wa by rw [hwa]; exact HBwr.out.drew)
              rw [← hwa]
              clear hwa e4wr
              have e4wa : wa.cell? ⟨bx, ox + q, none⟩ = some (.int .i64 (v q)) := by rw [(HW0.out.trans (HBwa.out.mono (by omega))).cell (p := ⟨bx, ox + q, none⟩) hbx]; exact HX.out q hqn
              go_wp2_with fail
              have d2 : wa.cell? ⟨w.heap.size + 1 + 1, 2, none⟩ = some (.int .i64 g1) := by simpa using RowB.cell H1wa.out (i := 2) (by omega)
              have d3 : wa.cell? ⟨w.heap.size + 1 + 1, 3, none⟩ = some (.int .i64 g2) := by simpa using RowB.cell H1wa.out (i := 3) (by omega)
              cases hhi : greaterB (T q) (v q) g1 g2
              · skip
                have HGn2 := Lib.hid (show fmF greaterB T v (q + 1) = fmF greaterB T v q by rw [HGn.out, hhi]; rfl)
                have hdg : decide (g1 * v q < T q * g2) = false := hhi
                clear hhi
                go_region
                clear d2 d3
                obtain ⟨wc, hwc⟩ : ∃ u, u = wa.drew := ⟨_, rfl⟩
                have H1wc := Lib.hid (show RowI wc 37 (w.heap.size + 1 + 1) 4 (fun p => if p = 0 then l1 else if p = 1 then l2 else if p = 2 then g1 else g2) by rw [hwc]; exact H1wa.out)
                have HBwc := Lib.hid (show Below (w.heap.size + 1 + 1) W wc by rw [hwc]; exact HBwa.out.drew)
                rw [← hwc]
                clear hwc e4wa
                have e4wc : wc.cell? ⟨bx, ox + q, none⟩ = some (.int .i64 (v q)) := by rw [(HW0.out.trans (HBwc.out.mono (by omega))).cell (p := ⟨bx, ox + q, none⟩) hbx]; exact HX.out q hqn
                have HFin := Lib.hid (show RowI wc 37 (w.heap.size + 1 + 1) 4 (bdC T v (q + 1)) from H1wc.out.congr fun p hp => by
                  rcases (by omega : p = 0 ∨ p = 1 ∨ p = 2 ∨ p = 3) with rfl | rfl | rfl | rfl <;> simp [bdC, HLn2.out, HGn2.out, HL1.out, HL2.out, HG1.out, HG2.out])
                go_wp2_with fail
                exact ⟨⟨q + 1, by omega, by go_num, HBwc.out, HFin.out⟩, by simp [intOf]; omega⟩
              · skip
                have HGn2 := Lib.hid (show fmF greaterB T v (q + 1) = (T q, v q) by rw [HGn.out, hhi]; rfl)
                have hdg : decide (g1 * v q < T q * g2) = true := hhi
                clear hhi
                go_region
                clear d2 d3
                obtain ⟨wc, hwc⟩ : ∃ u, u = wa.drew := ⟨_, rfl⟩
                have H1wc := Lib.hid (show RowI wc 37 (w.heap.size + 1 + 1) 4 (fun p => if p = 0 then l1 else if p = 1 then l2 else if p = 2 then g1 else g2) by rw [hwc]; exact H1wa.out)
                have HBwc := Lib.hid (show Below (w.heap.size + 1 + 1) W wc by rw [hwc]; exact HBwa.out.drew)
                rw [← hwc]
                clear hwc e4wa
                have e4wc : wc.cell? ⟨bx, ox + q, none⟩ = some (.int .i64 (v q)) := by rw [(HW0.out.trans (HBwc.out.mono (by omega))).cell (p := ⟨bx, ox + q, none⟩) hbx]; exact HX.out q hqn
                have d2 := RowB.cell H1wc.out (i := 2) (by omega)
                have z2 := RowB.frozen H1wc.out 2
                have d3 := RowB.cell H1wc.out (i := 3) (by omega)
                have z3 := RowB.frozen H1wc.out 3
                go_wp2_with fail
                obtain ⟨wd, hwd⟩ : ∃ u, u = (wc.setCell ⟨(w.heap.size + 1 + 1), 2, none⟩ (.int .i64 (T q))).setCell ⟨(w.heap.size + 1 + 1), 3, none⟩ (.int .i64 (v q)) := ⟨_, rfl⟩
                have H1wd := Lib.hid (show RowI wd 37 (w.heap.size + 1 + 1) 4 (fun p => if p = 3 then v q else if p = 2 then T q else if p = 1 then l2 else l1) by
                  rw [hwd]
                  refine (RowI.set (RowI.set H1wc.out 2 (T q)) 3 (v q)).congr fun p hp => ?_
                  rcases (by omega : p = 0 ∨ p = 1 ∨ p = 2 ∨ p = 3) with rfl | rfl | rfl | rfl <;> simp)
                have HBwd := Lib.hid (show Below (w.heap.size + 1 + 1) W wd by rw [hwd]; exact (HBwc.out.setCell (Nat.le_refl _) _).setCell (Nat.le_refl _) _)
                rw [← hwd]
                clear hwd d2 d3 z2 z3 e4wc
                have e4wd : wd.cell? ⟨bx, ox + q, none⟩ = some (.int .i64 (v q)) := by rw [(HW0.out.trans (HBwd.out.mono (by omega))).cell (p := ⟨bx, ox + q, none⟩) hbx]; exact HX.out q hqn
                have HFin := Lib.hid (show RowI wd 37 (w.heap.size + 1 + 1) 4 (bdC T v (q + 1)) from H1wd.out.congr fun p hp => by
                  rcases (by omega : p = 0 ∨ p = 1 ∨ p = 2 ∨ p = 3) with rfl | rfl | rfl | rfl <;> simp [bdC, HLn2.out, HGn2.out, HL1.out, HL2.out, HG1.out, HG2.out])
                go_wp2_with fail
                exact ⟨⟨q + 1, by omega, by go_num, HBwd.out, HFin.out⟩, by simp [intOf]; omega⟩
    · obtain rfl : q = n := by omega
      have HR0 := Lib.hid (show RowI wo 37 (w.heap.size + 1) 4 (fun _ => 0) from RowB.below KR.out HB.out (by omega))
      have HQ := Lib.hid (HA1.out.congr (g := fun p => if p = 0 then (fmF lessB T v q).1 else if p = 1 then (fmF lessB T v q).2 else if p = 2 then (fmF greaterB T v q).1 else (fmF greaterB T v q).2) fun p hp => by unfold bdC; rw [if_neg (by omega)])
      obtain ⟨x1, hx1⟩ : ∃ x, x = (fmF lessB T v q).1 := ⟨_, rfl⟩
      obtain ⟨x2, hx2⟩ : ∃ x, x = (fmF lessB T v q).2 := ⟨_, rfl⟩
      obtain ⟨x3, hx3⟩ : ∃ x, x = (fmF greaterB T v q).1 := ⟨_, rfl⟩
      obtain ⟨x4, hx4⟩ : ∃ x, x = (fmF greaterB T v q).2 := ⟨_, rfl⟩
      rw [← hx1, ← hx2, ← hx3, ← hx4] at HQ
      have HX1 := Lib.hid hx1
      have HX2 := Lib.hid hx2
      have HX3 := Lib.hid hx3
      have HX4 := Lib.hid hx4
      clear hx1 hx2 hx3 hx4
      have y0 : wo.cell? ⟨w.heap.size + 1 + 1, 0, none⟩ = some (.int .i64 x1) := by simpa using RowB.cell HQ.out (i := 0) (by omega)
      have y1 : wo.cell? ⟨w.heap.size + 1 + 1, 1, none⟩ = some (.int .i64 x2) := by simpa using RowB.cell HQ.out (i := 1) (by omega)
      have y2 : wo.cell? ⟨w.heap.size + 1 + 1, 2, none⟩ = some (.int .i64 x3) := by simpa using RowB.cell HQ.out (i := 2) (by omega)
      have y3 : wo.cell? ⟨w.heap.size + 1 + 1, 3, none⟩ = some (.int .i64 x4) := by simpa using RowB.cell HQ.out (i := 3) (by omega)
      have d0 := RowB.cell HR0.out (i := 0) (by omega)
      have d1 := RowB.cell HR0.out (i := 1) (by omega)
      have d2 := RowB.cell HR0.out (i := 2) (by omega)
      have d3 := RowB.cell HR0.out (i := 3) (by omega)
      have z0 := RowB.frozen HR0.out 0
      have z1 := RowB.frozen HR0.out 1
      have z2 := RowB.frozen HR0.out 2
      have z3 := RowB.frozen HR0.out 3
      go_wp2_with fail
      have HF4 := Lib.hid (RowI.set (RowI.set (RowI.set (RowI.set HR0.out 0 x1) 1 x2) 2 x3) 3 x4)
      have HB4 := Lib.hid ((((HT.out.setCell (p := ⟨w.heap.size + 1, 0, none⟩) (by simp) (.int .i64 x1)).setCell (p := ⟨w.heap.size + 1, 1, none⟩) (by simp) (.int .i64 x2)).setCell (p := ⟨w.heap.size + 1, 2, none⟩) (by simp) (.int .i64 x3)).setCell (p := ⟨w.heap.size + 1, 3, none⟩) (by simp) (.int .i64 x4))
      have c0 := RowB.cell HF4.out (i := 0) (by omega)
      have c1' := RowB.cell HF4.out (i := 1) (by omega)
      have c2' := RowB.cell HF4.out (i := 2) (by omega)
      have c3' := RowB.cell HF4.out (i := 3) (by omega)
      simp at c0 c1' c2' c3'
      clear d0 d1 d2 d3 z0 z1 z2 z3 y0 y1 y2 y3
      refine bodyPost_ret (v := .agg #[.int .i64 x1, .int .i64 x2, .int .i64 x3, .int .i64 x4]) (by simp [results, Try.results53, go_sem, c0, c1', c2', c3']) rfl ⟨?_, HB4.out⟩
      rw [HX1.out, HX2.out, HX3.out, HX4.out, HTd.out]; rfl
end Go.Proofs.Ytbbgmfahdpimfaa
