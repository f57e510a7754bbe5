/- Invertible labels of the specification; InvertibleLabels of both. -/
import Derived.Test.YtpfodikmidgpmaaDmJ
import Derived.Test.YtpfodikmidgpmaaDmC
namespace Go.Proofs.Ytpfodikmidgpmaa
open Go.RowKit
set_option linter.unusedSimpArgs false
set_option maxHeartbeats 4000000 in
set_option maxRecDepth 100000 in
theorem l04Invertible_f (b off n c : Nat) (B O C : Nat → Nat) (B2 O2 C2 : Nat → Nat → Nat) (f : Nat → Nat → Nat → Int) (i : Nat) (w : World) (h : CubeAt w b off n B O C B2 O2 C2 f) (R : Rng n f) (hi : i < n) :
    Calls Try.prog 77 #[.agg #[.slice (some ⟨b, off, none⟩) n c], .int .i64 i] w fun e w' => e = .returned (.bool (invB n f i)) ∧ Below w.heap.size w w' := by
  have h0 := R.h0
  have h16 := R.h16
  have hd := R.dlt i hi
  have hdc := R.dcast i hi
  have HV := Lib.hid (show invB n f i = sameB n (f i (dn n f i)) (oneZ 0) from rfl)
  obtain ⟨d, hdd⟩ : ∃ d, d = dn n f i := ⟨_, rfl⟩
  rw [← hdd] at hd hdc HV
  clear hdd
  obtain ⟨W, hW⟩ : ∃ W, W = w.alloc (.cells #[.slice (some ⟨b, off, none⟩) n c] 28) := ⟨_, rfl⟩
  have HWe := Lib.hid hW
  have HW0 := Lib.hid (show Below w.heap.size w W by rw [hW]; exact below_alloc w _)
  have HWs := Lib.hid (show W.heap.size = w.heap.size + 1 by rw [hW]; simp)
  have HC := Lib.hid (h.below (show Below w.heap.size w W by rw [hW]; exact below_alloc w _))
  have KW := Lib.hid (show W.cell? ⟨w.heap.size, 0, none⟩ = some (.slice (some ⟨b, off, none⟩) n c) ∧ W.cell? ⟨b, off + i, none⟩ = some (.slice (some ⟨B i, O i, none⟩) n (C i)) ∧ W.cell? ⟨B i, O i + d, none⟩ = some (.slice (some ⟨B2 i d, O2 i d, none⟩) n (C2 i d)) from ⟨by rw [hW]; exact cell_box _ _ _, (HC.out.row i hi).1, (HC.out.col i d hi hd).1⟩)
  have HRd := Lib.hid (HC.out.rdRow hi hd)
  have HDu := Lib.hid (fun u (hu : Below W.heap.size W u) => l03Dual_f b off n c B O C B2 O2 C2 f i u (HC.out.below hu) (by omega) hi)
  rw [hdc] at HDu
  have hbl : b < W.heap.size := HC.out.lt
  have hbl2 : B i < W.heap.size := (HC.out.row i hi).2
  clear hW h R hdc HC
  generalize B i = b1 at *
  generalize O i = o1 at *
  generalize C i = c1 at *
  generalize B2 i d = b2 at *
  generalize O2 i d = o2 at *
  generalize C2 i d = c2 at *
  go_enter Try.func77, Try.ntmps77
  go_wp2_with fail
  rw [← HWe.out]
  go_region_held3 (fun u => u.cell? ⟨w.heap.size, 0, none⟩ = some (.slice (some ⟨b, off, none⟩) n c) ∧ u.cell? ⟨b, off + i, none⟩ = some (.slice (some ⟨b1, o1, none⟩) n c1) ∧ u.cell? ⟨b1, o1 + d, none⟩ = some (.slice (some ⟨b2, o2, none⟩) n c2)) (first | exact KB.out | exact KA.out | exact KW.out) (first | (have q9 := HB1.out; clear q9; go_at_call 105; refine (l01Same_q (some ⟨b2, o2, none⟩) (some ⟨g1, 0, none⟩) n c2 n (f i d) (oneZ 0) _ (HRd.out.below HB1.out (Nat.le_refl _)) (RowI.rd HR1.out) (by omega)).mono ?_; rintro e w3 ⟨rfl, hb2⟩; have HB2 := Lib.hid (HB1.out.trans ((show Below w2.heap.size w2 w3 from hb2.below).mono HB1.out.size)); have KB := Lib.hid (show w3.cell? ⟨w.heap.size, 0, none⟩ = some (.slice (some ⟨b, off, none⟩) n c) ∧ w3.cell? ⟨b, off + i, none⟩ = some (.slice (some ⟨b1, o1, none⟩) n c1) ∧ w3.cell? ⟨b1, o1 + d, none⟩ = some (.slice (some ⟨b2, o2, none⟩) n c2) from ⟨(hb2.cell _).trans KA.out.1, (hb2.cell _).trans KA.out.2.1, (hb2.cell _).trans KA.out.2.2⟩); clear hb2) | (go_at_call 106; refine (l03One_f _ n c 0 _ h0 (by omega)).mono ?_; rintro e w2 ⟨g1, rfl, hg1, hr1, hb1⟩; have HB1 := Lib.hid (show Below W.heap.size W w2 from ⟨hb1.os, hb1.tape, hb1.output, hb1.size, hb1.block⟩); have HR1 := Lib.hid hr1; have KA := Lib.hid (show w2.cell? ⟨w.heap.size, 0, none⟩ = some (.slice (some ⟨b, off, none⟩) n c) ∧ w2.cell? ⟨b, off + i, none⟩ = some (.slice (some ⟨b1, o1, none⟩) n c1) ∧ w2.cell? ⟨b1, o1 + d, none⟩ = some (.slice (some ⟨b2, o2, none⟩) n c2) from ⟨(HB1.out.cell (p := ⟨w.heap.size, 0, none⟩) (by rw [HWs.out]; show w.heap.size < _; omega)).trans KW.out.1, (HB1.out.cell (p := ⟨b, off + i, none⟩) hbl).trans KW.out.2.1, (HB1.out.cell (p := ⟨b1, o1 + d, none⟩) hbl2).trans KW.out.2.2⟩); clear hg1 hr1 hb1) | (go_at_call 102; refine (HDu.out _ (by first | exact (Below.refl _ _).drew | exact HB1.out)).mono ?_; rintro e w5 ⟨rfl, rfl⟩))
  clear KA HB1
  go_wp2_with fail
  go_ret
  exact ⟨ret_bool HV.out.symm, HW0.out.trans (HB2.out.mono (by rw [HWs.out]; omega))⟩
/-- the invertible labels below m -/
def ivs (n : Nat) (f : Nat → Nat → Nat → Int) : Nat → List Nat
  | 0 => []
  | m + 1 => if invB n f m = true then ivs n f m ++ [m] else ivs n f m
theorem ivs_len (n : Nat) (f : Nat → Nat → Nat → Int) (m : Nat) : (ivs n f m).length ≤ m := by
  induction m with
  | zero => exact Nat.le_refl _
  | succ m ih => simp only [ivs]; split <;> (try simp) <;> omega
theorem ivs_pre (n : Nat) (f : Nat → Nat → Nat → Int) {m k : Nat} (h : m ≤ k) : ∃ r, ivs n f k = ivs n f m ++ r := by
  induction k with
  | zero => exact ⟨[], by rw [show m = 0 by omega]; rfl⟩
  | succ k ih =>
    by_cases e : m = k + 1
    · exact ⟨[], by rw [e]; simp⟩
    · obtain ⟨r, hr⟩ := ih (by omega)
      simp only [ivs]
      split
      · exact ⟨r ++ [k], by rw [hr]; simp⟩
      · exact ⟨r, hr⟩
/-- the j-th invertible label -/
def ivF (n : Nat) (f : Nat → Nat → Nat → Int) (j : Nat) : Int := ((ivs n f n).getD j 0 : Nat)
theorem ivF_at {n : Nat} {f : Nat → Nat → Nat → Int} {m : Nat} (hm : m < n) (h : invB n f m = true) : ivF n f (ivs n f m).length = (m : Nat) := by
  obtain ⟨r, hr⟩ := ivs_pre n f (show m + 1 ≤ n by omega)
  simp only [ivs, if_pos h] at hr
  unfold ivF
  rw [hr, List.append_assoc, List.getD_eq_getElem?_getD, List.getElem?_append_right (Nat.le_refl _)]
  simp
theorem ivs_yes {n : Nat} {f : Nat → Nat → Nat → Int} {m : Nat} (h : invB n f m = true) : (ivs n f (m + 1)).length = (ivs n f m).length + 1 := by simp [ivs, h]
theorem ivs_no {n : Nat} {f : Nat → Nat → Nat → Int} {m : Nat} (h : invB n f m = false) : (ivs n f (m + 1)).length = (ivs n f m).length := by simp [ivs, h]
set_option maxRecDepth 100000 in
theorem invertibleLabels_f (b off n c : Nat) (B O C : Nat → Nat) (B2 O2 C2 : Nat → Nat → Nat) (f : Nat → Nat → Nat → Int) (w : World) (h : CubeAt w b off n B O C B2 O2 C2 f) (R : Rng n f) :
    Calls Try.prog 78 #[.agg #[.slice (some ⟨b, off, none⟩) n c]] w fun e w' => ∃ g cg, e = .returned (.slice (some ⟨g, 0, none⟩) (ivs n f n).length cg) ∧ w.heap.size ≤ g ∧ RowI w' 2 g (ivs n f n).length (ivF n f) ∧ Below w.heap.size w w' := by
  have H := Lib.hid h
  have HR := Lib.hid R
  have h16 := R.h16
  clear h R
  obtain ⟨W, hW⟩ : ∃ W, W = w.alloc (.cells #[.slice (some ⟨b, off, none⟩) n c] 28) := ⟨_, rfl⟩
  have HWe := Lib.hid hW
  have HW0 := Lib.hid (show Below w.heap.size w W by rw [hW]; exact below_alloc w _)
  have HWs := Lib.hid (show W.heap.size = w.heap.size + 1 by rw [hW]; simp)
  have HWc := Lib.hid (show W.cell? ⟨w.heap.size, 0, none⟩ = some (.slice (some ⟨b, off, none⟩) n c) by rw [hW]; exact cell_box _ _ _)
  have HWa := Lib.hid (show (W.alloc (.cells #[] 2)).cell? ⟨w.heap.size, 0, none⟩ = some (.slice (some ⟨b, off, none⟩) n c) by rw [World.cell?_alloc_lt _ _ ⟨w.heap.size, 0, none⟩ (by rw [hW]; simp)]; rw [hW]; exact cell_box _ _ _)
  have e0 := HWa.out
  rw [hW] at e0
  clear hW
  go_enter Try.func78, Try.ntmps78
  go_wp2_with fail
  clear e0
  refine (rank_f _ n c _).mono ?_
  rintro e w1 ⟨rfl, hb1⟩
  have HA0 := Lib.hid (show Acc W w1 2 (.slice (some ⟨w.heap.size + 1, 0, none⟩) 0 0) 0 (ivF n f) by
    have := (Acc.start W 2 (ivF n f)).kept (show Below (W.alloc (.cells #[] 2)).heap.size (W.alloc (.cells #[] 2)) w1 by rw [HWe.out]; exact hb1)
    rw [HWs.out] at this
    exact this)
  clear hb1
  go_wp2_with fail
  go_loopw [3, 8] (fun v x wr => ∃ (q g cg : Nat), q ≤ n ∧ x = .int .i64 q ∧ v = .slice (some ⟨g, 0, none⟩) (ivs n f q).length cg ∧ Acc W wr 2 (.slice (some ⟨g, 0, none⟩) (ivs n f q).length cg) (ivs n f q).length (ivF n f)) (fun _ x _ => n - (intOf x).toNat)
  case atStart => exact ⟨0, _, _, by omega, rfl, rfl, HA0.out⟩
  case round =>
    obtain ⟨q, g, cg, hq, rfl, rfl, hacc⟩ := hrel
    have HA := Lib.hid hacc
    have HT := Lib.hid (HW0.out.trans (hacc.bel.mono (by rw [HWs.out]; omega)))
    clear hacc
    have hlq := ivs_len n f q
    by_cases hqn : q < n
    · have e0 : wr.cell? ⟨w.heap.size, 0, none⟩ = some (.slice (some ⟨b, off, none⟩) n c) := by
        rw [HA.out.bel.cell (p := ⟨w.heap.size, 0, none⟩) (by rw [HWs.out]; show w.heap.size < _; omega)]; exact HWc.out
      have HD := Lib.hid (isInvertible_f b off n c B O C B2 O2 C2 f q wr (H.out.below HT.out) HR.out hqn)
      go_wp2_with fail
      clear e0
      refine HD.out.mono ?_
      rintro e w2 ⟨rfl, hb2⟩
      have HA2 := Lib.hid (HA.out.kept hb2)
      clear hb2
      cases hinv : invB n f q
      · have HN := Lib.hid (ivs_no hinv)
        clear hinv
        go_wp2_with fail
        exact ⟨⟨q + 1, g, cg, by omega, by go_num, by rw [HN.out], by rw [HN.out]; exact HA2.out⟩, by simp [intOf]; omega⟩
      · have HN := Lib.hid (ivs_yes hinv)
        have HF := Lib.hid (ivF_at hqn hinv)
        clear hinv
        have hsz := HA2.out.bel.size
        obtain ⟨l, hl⟩ : ∃ l, l = (ivs n f q).length := ⟨_, rfl⟩
        rw [← hl] at HA2 HN HF hlq ⊢
        clear hl
        go_wp2_with (at_builtin; refine push64 _ rfl _ _ rfl W.heap.size _ l _ rfl (HA2.out.own.alloc _) ⟨_, 0, none⟩ (q : Int) rfl (cell_one_new _ _ _) (by omega) (by simp; omega) ?_; intro g3 c3 w3 hown3 hgr3)
        have HP := Lib.hid (HA2.out.push _ HF.out hown3 hgr3)
        clear hown3 hgr3
        go_wp2_with fail
        exact ⟨⟨q + 1, g3, c3, by omega, by go_num, by rw [HN.out], by rw [HN.out]; exact HP.out⟩, by simp [intOf]; omega⟩
    · obtain rfl : q = n := by omega
      obtain ⟨hg, hcg1, hcg2, hrow⟩ := HA.out.done
      have HRw := Lib.hid hrow
      have HG := Lib.hid (show w.heap.size ≤ g from by rw [HWs.out] at hg; omega)
      clear hrow hg HA
      go_wp2_with fail
      go_ret
      exact ⟨g, cg, rfl, HG.out, HRw.out, HT.out⟩
theorem implIvl_f_rows (n : Nat) (M : Nat → Nat) (L : Nat → Nat → Nat) (f : Nat → Nat → Nat → Int) : nRg (ringB n M L f) (ivs n f n).length ≤ 64 := by
  cases hr : ringB n M L f
  · simp [nRg]
  · have := (cub_num (ringB_t hr).1).2.1
    have := ivs_len n f n
    unfold nRg; split <;> omega
end Go.Proofs.Ytpfodikmidgpmaa
