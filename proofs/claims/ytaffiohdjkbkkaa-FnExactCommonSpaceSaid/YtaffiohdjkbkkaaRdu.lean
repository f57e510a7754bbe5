/- The reduced basis and the determinant, in the program. -/
import Derived.Test.YtaffiohdjkbkkaaRed
namespace Go.Proofs.Ytaffiohdjkbkkaa
open Go.RowKit
theorem gau_nil (F : Mat) (k : Nat) : gau 0 F k = (F, 0, 1) := by
  induction k with
  | zero => rfl
  | succ k ih => rw [gau_no (by omega), ih]
theorem columns_0 (a : Option Addr) (c : Nat) (w : World) : Calls Try.prog 142 #[.slice a 0 c] w fun e w' => e = .returned (.int .i64 0) ∧ w = w' := by
  go_enter Try.func142, Try.ntmps142
  go_wp2_with fail
  go_ret
  exact ⟨rfl, rfl⟩
/-- what 'reduced' returns -/
def RedRes (w : World) (n m : Nat) (g : Mat × Nat × K) (e : Ending) (w' : World) : Prop :=
  ∃ b C G, e = .returned (.tuple #[.slice (some ⟨b, 0, none⟩) g.2.1 g.2.1, .int .i64 (vK g.2.2)]) ∧ MatB w' 80 123 w.heap.size b n (fun _ => m) C G (fun i j => vK (g.1 i j)) ∧ Below w.heap.size w w'
set_option maxHeartbeats 4000000 in
set_option maxRecDepth 100000 in
theorem reduced_f (a : Option Addr) (n m c : Nat) (F : Mat) (w : World) (h : RdM w a n (fun _ => m) (fun i j => vK (F i j))) (hm0 : 0 < m) (hn : n ≤ 1000) (hm : m ≤ 1000) :
    Calls Try.prog 194 #[.slice a n c] w (RedRes w n m (gau n F m)) := by
  have H := Lib.hid h
  clear h
  by_cases hn0 : 0 < n
  · go_enter Try.func194, Try.ntmps194
    go_wp2_with fail
    refine (copied_f _ n m _ _ _ H.out hm0 (by omega) (by omega)).mono ?_
    rintro e w1 ⟨rfl, ⟨C, G, hM⟩, hB⟩
    have HM := Lib.hid hM
    have HB := Lib.hid hB
    have H1 := Lib.hid (H.out.below hB (Nat.le_refl _))
    clear hM hB
    go_wp2_with fail
    refine (columns_f _ n m _ _ _ H1.out hn0 (by omega)).mono ?_
    rintro e w2 ⟨rfl, rfl⟩
    go_wp2_with fail
    go_loopw [5, 6, 14] (fun r d i wr => ∃ (q : Nat) (C G : Nat → Nat), q ≤ m ∧ i = .int .i64 q ∧ r = .int .i64 (gau n F q).2.1 ∧ d = .int .i64 (vK (gau n F q).2.2) ∧ MatB wr 80 123 w.heap.size w.heap.size n (fun _ => m) C G (fun i j => vK ((gau n F q).1 i j)) ∧ Below w.heap.size w wr) (fun _ _ i _ => m - (intOf i).toNat)
    case atStart => exact ⟨0, C, G, by omega, rfl, rfl, rfl, HM.out, HB.out⟩
    case round =>
      obtain ⟨q, C1, G1, hq, rfl, rfl, rfl, hM1, hB1⟩ := hrel
      have HB1 := Lib.hid hB1
      have hrk := gau_rank n F q
      obtain ⟨r, hr⟩ : ∃ r, r = (gau n F q).2.1 := ⟨_, rfl⟩
      obtain ⟨A, hA⟩ : ∃ A, A = (gau n F q).1 := ⟨_, rfl⟩
      obtain ⟨d, hd⟩ : ∃ A, A = (gau n F q).2.2 := ⟨_, rfl⟩
      have HR := Lib.hid hr
      have HA := Lib.hid hA
      have HD := Lib.hid hd
      rw [← hr] at hrk ⊢
      rw [← hd]
      have HM1 := Lib.hid (hM1.congr (g := fun i j => vK (A i j)) (fun i hi j hj => by rw [hA]))
      obtain ⟨hr1, hr2⟩ := hrk
      obtain ⟨dv, hdv⟩ : ∃ x, x = vK d := ⟨_, rfl⟩
      rw [← hdv]
      have ED := Lib.hid hdv
      clear hr hA hd hM1 hB1 hdv
      by_cases hlt : q < m
      · go_wp2_with fail
        have HBP := Lib.hid (bringPivot_f w.heap.size n w.heap.size n m r q C1 G1 A wr HM1.out hlt hr2 hn hm)
        refine HBP.out.mono ?_
        rintro e w3 hcase
        rcases hcase with ⟨hpv, rfl, rfl⟩ | ⟨hpv, rfl, hM3, hO3⟩
        · have HGN := Lib.hid (gau_no (n := n) (k := q) (F := F) (by rw [← HR.out, ← HA.out, hpv]; omega))
          clear hpv
          go_wp2_with fail
          refine ⟨⟨q + 1, C1, G1, by omega, by go_num, by rw [HGN.out, ← HR.out], by rw [HGN.out, ← HD.out, ← ED.out], HM1.out.congr (fun i hi j hj => by rw [HGN.out, ← HA.out]), HB1.out⟩, by simp [intOf]; omega⟩
        · obtain ⟨p, hp⟩ : ∃ p, p = piv A n q r := ⟨_, rfl⟩
          have HGY := Lib.hid (gau_yes (n := n) (k := q) (F := F) (by rw [← HR.out, ← HA.out]; exact hpv))
          have HG1 := Lib.hid (show (gau n F (q + 1)).1 = clr A r p q by rw [HGY.out, ← HR.out, ← HA.out, hp])
          have HG2 := Lib.hid (show (gau n F (q + 1)).2.1 = r + 1 by rw [HGY.out, ← HR.out])
          have HG3 := Lib.hid (show (gau n F (q + 1)).2.2 = (if r < p then -d else d) * A p q by rw [HGY.out, ← HR.out, ← HA.out, ← hp, ← HD.out])
          have hrp := (piv_spec A n q (n - r) r rfl hr2).1
          rw [← hp] at hpv hM3 hrp ⊢
          have HM3 := Lib.hid hM3
          have HB3 := Lib.hid (HB1.out.trans (hO3.below (B := w.heap.size) (fun x hx => by have hx2 : x = w.heap.size := hx; omega)))
          have hrn : r < n := by omega
          have e1 := RowB.cell hM3.outer hrn
          have e2 : w3.cell? ⟨swp r p G1 r, q, none⟩ = some (.int .i64 (vK (A p q))) := hM3.cellAt hrn hlt (by simp [swp])
          have HCl := Lib.hid (clearColumn_f w.heap.size n w.heap.size n m r q (swp r p C1) (swp r p G1) (swp r p A) w3 hM3 hlt hrn hn hm)
          obtain ⟨gr, hgr⟩ : ∃ x, x = swp r p G1 r := ⟨_, rfl⟩
          obtain ⟨cr, hcr⟩ : ∃ x, x = swp r p C1 r := ⟨_, rfl⟩
          obtain ⟨xv, hxv⟩ : ∃ x, x = vK (A p q) := ⟨_, rfl⟩
          rw [← hgr] at e1 e2
          rw [← hcr] at e1
          rw [← hxv] at e2
          have EX := Lib.hid hxv
          clear hgr hcr hxv hM3 hO3 hp hrp
          by_cases hrp : r < p
          · have hdd : decide (r < p) = true := by simpa using hrp
            have HRP := Lib.hid hrp
            clear hrp
            have HTm := Lib.hid (fun u => times_k (0 - d) (A p q) u)
            rw [← EX.out] at HTm
            obtain ⟨tv, htv⟩ : ∃ x, x = vK ((0 - d) * A p q) := ⟨_, rfl⟩
            have hz0 := Lib.hid (fun u => minus_k 0 d u)
            rw [vK_zero, ← ED.out] at hz0
            obtain ⟨sv, hsv⟩ : ∃ x, x = vK (0 - d) := ⟨_, rfl⟩
            rw [← hsv] at hz0 HTm
            clear hsv
            rw [← htv] at HTm
            have ET := Lib.hid (show tv = vK (gau n F (q + 1)).2.2 by rw [htv, HG3.out]; rw [if_pos HRP.out]; (congr 1 <;> grind))
            clear htv
            go_wp2_with fail
            refine (hz0.out _).mono ?_
            rintro e w4 ⟨rfl, rfl⟩
            go_wp2_with fail
            refine (HTm.out _).mono ?_
            rintro e w4 ⟨rfl, rfl⟩
            go_wp2_with fail
            refine HCl.out.mono ?_
            rintro e w5 ⟨rfl, hM5, hO5⟩
            have HM5 := Lib.hid (hM5.congr (g := fun i j => vK ((gau n F (q + 1)).1 i j)) (fun i hi j hj => by rw [HG1.out, clrB_swp]))
            have HB5 := Lib.hid (HB3.out.trans (hO5.below (B := w.heap.size) (fun x hx => by obtain ⟨i, hi, rfl⟩ := hx; exact (HM3.out.row i hi).1)))
            clear hM5 hO5
            go_wp2_with fail
            refine ⟨⟨q + 1, _, _, by omega, by go_num, by rw [HG2.out]; go_num, by rw [← ET.out], HM5.out, HB5.out⟩, by simp [intOf]; omega⟩
          · have hdd : decide (r < p) = false := by simpa using hrp
            have HRP := Lib.hid hrp
            clear hrp
            have HTm := Lib.hid (fun u => times_k (d) (A p q) u)
            rw [← EX.out] at HTm
            obtain ⟨tv, htv⟩ : ∃ x, x = vK ((d) * A p q) := ⟨_, rfl⟩
            rw [← ED.out] at HTm
            rw [← htv] at HTm
            have ET := Lib.hid (show tv = vK (gau n F (q + 1)).2.2 by rw [htv, HG3.out]; rw [if_neg HRP.out])
            clear htv
            go_wp2_with fail
            refine (HTm.out _).mono ?_
            rintro e w4 ⟨rfl, rfl⟩
            go_wp2_with fail
            refine HCl.out.mono ?_
            rintro e w5 ⟨rfl, hM5, hO5⟩
            have HM5 := Lib.hid (hM5.congr (g := fun i j => vK ((gau n F (q + 1)).1 i j)) (fun i hi j hj => by rw [HG1.out, clrB_swp]))
            have HB5 := Lib.hid (HB3.out.trans (hO5.below (B := w.heap.size) (fun x hx => by obtain ⟨i, hi, rfl⟩ := hx; exact (HM3.out.row i hi).1)))
            clear hM5 hO5
            go_wp2_with fail
            refine ⟨⟨q + 1, _, _, by omega, by go_num, by rw [HG2.out]; go_num, by rw [← ET.out], HM5.out, HB5.out⟩, by simp [intOf]; omega⟩
      · obtain rfl : q = m := by omega
        have HE1 := Lib.hid (show Value.int .i64 dv = Value.int .i64 (vK (gau n F q).2.2) by rw [ED.out, HD.out])
        have HM2 := Lib.hid (HM1.out.congr (g := fun i j => vK ((gau n F q).1 i j)) (fun i hi j hj => by rw [HA.out]))
        go_wp2_with fail
        go_ret2
        exact ⟨w.heap.size, C1, G1, by rw [← HR.out, ← HD.out, ← ED.out]; rfl, HM2.out, HB1.out⟩
  · obtain rfl : n = 0 := by omega
    have HG := Lib.hid (gau_nil F m)
    rw [HG.out]
    go_enter Try.func194, Try.ntmps194
    go_wp2_with fail
    refine (copied_f _ 0 m _ _ _ H.out hm0 (by omega) (by omega)).mono ?_
    rintro e w1 ⟨rfl, ⟨C, G, hM⟩, hB⟩
    have HM := Lib.hid hM
    have HB := Lib.hid hB
    clear hM hB
    go_wp2_with fail
    refine (columns_0 _ _ _).mono ?_
    rintro e w2 ⟨rfl, rfl⟩
    go_wp2_with fail
    go_loop [5, 6, 14] (fun r d i => i = .int .i64 0 ∧ d = .int .i64 1 ∧ ∃ z : Nat, z ≤ 0 ∧ r = .int .i64 z) (fun _ _ _ => 0)
    case atStart => exact ⟨rfl, rfl, 0, Nat.le_refl _, rfl⟩
    case round =>
      obtain ⟨rfl, rfl, z, hz, rfl⟩ := hrel
      have HZ := Lib.hid (show z = 0 by omega)
      go_wp2_with fail
      go_ret2
      exact ⟨w.heap.size, C, G, by rw [HZ.out]; rfl, HM.out, HB.out⟩
theorem basis_f (a : Option Addr) (n m c : Nat) (F : Mat) (w : World) (h : RdM w a n (fun _ => m) (fun i j => vK (F i j))) (hm0 : 0 < m) (hn : n ≤ 1000) (hm : m ≤ 1000) :
    Calls Try.prog 170 #[.slice a n c] w fun e w' => ∃ b C G, e = .returned (.slice (some ⟨b, 0, none⟩) (gau n F m).2.1 (gau n F m).2.1) ∧ MatB w' 80 123 w.heap.size b n (fun _ => m) C G (fun i j => vK ((gau n F m).1 i j)) ∧ Below w.heap.size w w' := by
  have H := Lib.hid h
  clear h
  go_enter Try.func170, Try.ntmps170
  go_wp2_with fail
  refine (reduced_f _ n m _ F _ H.out hm0 hn hm).mono ?_
  rintro e w1 ⟨b, C, G, rfl, hM, hB⟩
  have HM := Lib.hid hM
  have HB := Lib.hid hB
  clear hM hB
  go_wp2_with fail
  go_ret
  exact ⟨b, C, G, rfl, HM.out, HB.out⟩
end Go.Proofs.Ytaffiohdjkbkkaa
