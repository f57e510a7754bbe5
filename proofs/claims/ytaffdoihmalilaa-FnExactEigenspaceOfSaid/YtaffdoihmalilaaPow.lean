/- Powers of matrices, in both programs. -/
import Derived.Test.YtaffdoihmalilaaCop
namespace Go.Proofs.Ytaffdoihmalilaa
open Go.RowKit
def unitK : Mat := fun i j => if i = j then 1 else 0
/-- the rounds of a power -/
def powIt (n : Nat) (A S : Mat) (k : Nat) : Mat :=
  if h : k = 0 then A else powIt n (if k % 2 = 1 then mulK n A S else A) (mulK n S S) (k / 2)
termination_by k
decreasing_by omega
theorem powIt_zero (n : Nat) (A S : Mat) : powIt n A S 0 = A := by unfold powIt; simp
theorem powIt_odd {n k : Nat} {A S : Mat} (h : k % 2 = 1) : powIt n A S k = powIt n (mulK n A S) (mulK n S S) (k / 2) := by
  conv => lhs; unfold powIt
  rw [dif_neg (by omega), if_pos h]
theorem powIt_even {n k : Nat} {A S : Mat} (h0 : 0 < k) (h : ¬ k % 2 = 1) : powIt n A S k = powIt n A (mulK n S S) (k / 2) := by
  conv => lhs; unfold powIt
  rw [dif_neg (by omega), if_neg h]
theorem unit_row (i j : Nat) : vK (diagK (fun _ _ => 0) 1 i j) = vK (unitK i j) := by
  unfold diagK unitK
  by_cases e : i = j
  · rw [if_pos e, if_pos e]; rfl
  · rw [if_neg e, if_neg e]
theorem unitMatrix_f (n : Nat) (w : World) (h0 : 0 < n) (hn : n ≤ 1000) :
    Calls Try.prog 135 #[.int .i64 n] w (RetM 85 77 w n (fun _ => n) (fun i j => vK (unitK i j))) := by
  go_enter Try.func135, Try.ntmps135
  go_wp2_with fail
  refine (zeroMatrix_f n n _ hn hn h0).mono ?_
  rintro e w1 ⟨rfl, hz, hb1, -⟩
  have HZ := Lib.hid hz.rd
  have HB1 := Lib.hid hb1
  clear hz hb1
  have HC := Lib.hid (plusOnDiagonal_f (some ⟨w.heap.size + 1, 0, none⟩) n n (fun _ _ => 0) 1 w1 (HZ.out.congr (fun _ _ => rfl) (fun _ _ _ _ => rfl)) h0 hn)
  rw [vK_one] at HC
  go_wp2_with fail
  refine HC.out.mono ?_
  rintro e w2 ⟨b, cp, C, G, y1, y2, rfl, hM, hB⟩
  have HM := Lib.hid hM
  have HB := Lib.hid hB
  clear hM hB
  go_wp2_with fail
  go_ret
  exact ⟨b, cp, C, G, y1, y2, rfl, (HM.out.mono HB1.out.size).congr (fun i _ j _ => unit_row i j), HB1.out.trans (HB.out.mono HB1.out.size)⟩
theorem l02Unit_f (n : Nat) (w : World) (hn : n ≤ 1000) :
    Calls Try.prog 131 #[.int .i64 n] w (RetM 31 2 w n (fun _ => n) (fun i j => vK (unitK i j))) := by
  have hmk := run_make_row' (P := Try.prog) 31 2 (.int .i64 0) 8 Try.underlying31 infoI64 rfl .i64 .i64 n (by omega) (by omega)
  have HMK := Lib.hid hmk
  clear hmk
  go_enter Try.func131, Try.ntmps131
  go_wp2_with fail
  go_loopw [3, 4] (fun v i wr => ∃ (q g c : Nat) (C G : Nat → Nat), q ≤ n ∧ i = .int .i64 q ∧ v = .slice (some ⟨g, 0, none⟩) q c ∧ AccM w wr 31 2 (.slice (some ⟨g, 0, none⟩) q c) q (fun _ => n) C G (fun i j => vK (unitK i j))) (fun _ i _ => n - (intOf i).toNat)
  case atStart => exact ⟨0, _, _, fun _ => 0, fun _ => 0, by omega, rfl, rfl, AccM.start _ _ _ _ _ _ _⟩
  case round =>
    obtain ⟨q, g, cg, C', G', hq, rfl, rfl, hacc⟩ := hrel
    have HA := Lib.hid hacc
    clear hacc
    by_cases hlt : q < n
    · have hmk := HMK.out
      have HR0 := Lib.hid (RowB_of_rowIs (World.rowIs_made wr (.int .i64 0) n 2))
      have e1 := RowB.cell HR0.out hlt
      have e2 := RowB.frozen HR0.out q
      have HR1 := Lib.hid (show RowI (wr.alloc (.cells ((madeCells #[.int .i64 0] n).setIfInBounds q (.int .i64 1)) 2)) 2 wr.heap.size n (fun j => vK (unitK q j)) from
        ⟨_, heap_alloc_new wr _, fun j hj => by
          rw [Array.getElem?_setIfInBounds]
          simp only [unitK]
          by_cases e : q = j
          · rw [if_pos e, if_pos (by rw [size_madeCells, e]; exact hj), if_pos e]; rfl
          · rw [if_neg e, if_neg e]; simp [madeCells, hj, Nat.mod_one]; rfl⟩)
      have HB1 := Lib.hid (show Below wr.heap.size wr (wr.alloc (.cells ((madeCells #[.int .i64 0] n).setIfInBounds q (.int .i64 1)) 2)) from below_alloc _ _)
      have HK := Lib.hid (HA.out.kept HB1.out)
      have hsz := HA.out.bel.size
      go_wp2_with (at_builtin; go_loud (refine pushRow _ rfl _ _ rfl w.heap.size _ q _ rfl (HK.out.own.alloc _) ⟨wr.heap.size + 1, 0, none⟩ (some ⟨wr.heap.size, 0, none⟩) n n rfl (by have := cell_one_new (wr.alloc (.cells ((madeCells #[.int .i64 0] n).setIfInBounds q (.int .i64 1)) 2)) (.slice (some ⟨wr.heap.size, 0, none⟩) n n) 31; simpa using this) (by omega) (by simp; omega) ?_; intro g3 c3 w3 hown3 hgr3))
      have HP := Lib.hid (HA.out.push (by decide) HB1.out (Nat.le_refl _) HR1.out rfl (Nat.le_refl _) (by unfold maxLen; omega) _ hown3 hgr3)
      clear hmk e1 e2
      go_roundw
      case rel => exact ⟨q + 1, g3, c3, _, _, by omega, by go_num, rfl, HP.out⟩
      case measure => simp [intOf]; omega
    · obtain rfl : q = n := by omega
      go_wp2_with fail
      go_ret
      obtain ⟨d1, d2, d3⟩ := HA.out.done
      exact ⟨g, cg, _, _, d1, d2, rfl, d3, HA.out.bel⟩
theorem power_f (a : Option Addr) (n c : Nat) (F : Mat) (k0 : Int) (w : World) (h : RdM w a n (fun _ => n) (fun i j => vK (F i j))) (h0 : 0 < n) (hn : n ≤ 1000) (hk0 : 0 ≤ k0) (hk1 : k0 ≤ 1000000) :
    Calls Try.prog 116 #[.slice a n c, .int .i64 k0] w (RetM 85 77 w n (fun _ => n) (fun i j => vK (powIt n unitK F k0.toNat i j))) := by
  obtain ⟨K0, rfl⟩ : ∃ q : Nat, k0 = (q : Int) := ⟨k0.toNat, by omega⟩
  have H := Lib.hid h
  clear h
  rw [Int.toNat_natCast]
  go_enter Try.func116, Try.ntmps116
  go_wp2_with fail
  refine (unitMatrix_f n _ h0 hn).mono ?_
  rintro e w1 ⟨b, cp, C, G, y1, y2, rfl, hM, hB⟩
  have HM := Lib.hid hM
  have HB := Lib.hid hB
  have H1 := Lib.hid (H.out.below hB (Nat.le_refl _))
  have Y := Lib.hid (And.intro y1 y2)
  clear hM hB y1 y2
  go_wp2_with fail
  go_loopw [1, 5, 6] (fun k r s wr => ∃ (q b c c2 : Nat) (C G : Nat → Nat) (a2 : Option Addr) (A S : Mat), q ≤ 1000000 ∧ k = .int .i64 q ∧ r = .slice (some ⟨b, 0, none⟩) n c ∧ s = .slice a2 n c2 ∧ (n ≤ c ∧ c ≤ maxLen) ∧ MatB wr 85 77 w.heap.size b n (fun _ => n) C G (fun i j => vK (A i j)) ∧ RdM wr a2 n (fun _ => n) (fun i j => vK (S i j)) ∧ powIt n unitK F K0 = powIt n A S q ∧ Below w.heap.size w wr) (fun k _ _ _ => (intOf k).toNat)
  case atStart => exact ⟨K0, b, cp, c, C, G, a, unitK, F, by omega, rfl, rfl, rfl, Y.out, HM.out, H1.out, rfl, HB.out⟩
  case round =>
    obtain ⟨q, b3, c3, c4, C3, G3, a2, A, S, hq, rfl, rfl, rfl, hy, hM, hS, hP, hbl⟩ := hrel
    have HM3 := Lib.hid hM
    have HS3 := Lib.hid hS
    have HP3 := Lib.hid hP
    have HB3 := Lib.hid hbl
    have Y3 := Lib.hid hy
    clear hM hS hP hbl hy
    by_cases hpos : 0 < q
    · have hd : decide (0 < (q : Int)) = true := by simp; omega
      by_cases hodd : q % 2 = 1
      · have hd2 : (((q : Nat) : Int) % 2 == 1) = true := by simp; omega
        have HP4 := Lib.hid (powIt_odd (n := n) (A := A) (S := S) hodd)
        clear hodd
        go_wp2_with fail
        refine (times_f _ _ n n n _ _ A S _ HM3.out.rd HS3.out h0 hn hn hn).mono ?_
        rintro e u1 ⟨b5, c5, C5, G5, y5, z5, rfl, hM5, hB5⟩
        have HM5 := Lib.hid (hM5.mono HB3.out.size)
        have HB5 := Lib.hid hB5
        have HS5 := Lib.hid (HS3.out.below hB5 (Nat.le_refl _))
        have Y5 := Lib.hid (And.intro y5 z5)
        clear hM5 hB5 y5 z5
        go_wp2_with fail
        refine (times_f _ _ n n n _ _ S S _ HS5.out HS5.out h0 hn hn hn).mono ?_
        rintro e u2 ⟨b6, c6, C6, G6, y6, z6, rfl, hM6, hB6⟩
        have HM6 := Lib.hid hM6.rd
        have HM5' := Lib.hid (HM5.out.below hB6 (Nat.le_refl _))
        have HB6 := Lib.hid ((HB3.out.trans (HB5.out.mono HB3.out.size)).trans (hB6.mono (HB3.out.trans (HB5.out.mono HB3.out.size)).size))
        clear hM6 hB6 y6 z6
        go_wp2_with fail
        go_roundw
        case rel => exact ⟨q / 2, b5, c5, c6, C5, G5, _, _, _, by omega, by first | go_num | exact congrArg (Value.int .i64) (by omega), rfl, rfl, Y5.out, HM5'.out, HM6.out, by rw [HP3.out, HP4.out], HB6.out⟩
        case measure => simp [intOf]; omega
      · have hd2 : (((q : Nat) : Int) % 2 == 1) = false := by simp; omega
        have HP4 := Lib.hid (powIt_even (n := n) (A := A) (S := S) hpos hodd)
        clear hodd
        go_wp2_with fail
        refine (times_f _ _ n n n _ _ S S _ HS3.out HS3.out h0 hn hn hn).mono ?_
        rintro e u2 ⟨b6, c6, C6, G6, y6, z6, rfl, hM6, hB6⟩
        have HM6 := Lib.hid hM6.rd
        have HM5' := Lib.hid (HM3.out.below hB6 (Nat.le_refl _))
        have HB6 := Lib.hid (HB3.out.trans (hB6.mono HB3.out.size))
        clear hM6 hB6 y6 z6
        go_wp2_with fail
        go_roundw
        case rel => exact ⟨q / 2, b3, c3, c6, C3, G3, _, _, _, by omega, by first | go_num | exact congrArg (Value.int .i64) (by omega), rfl, rfl, Y3.out, HM5'.out, HM6.out, by rw [HP3.out, HP4.out], HB6.out⟩
        case measure => simp [intOf]; omega
    · obtain rfl : q = 0 := by omega
      have HE := Lib.hid (show powIt n unitK F K0 = A by rw [HP3.out, powIt_zero])
      go_wp2_with fail
      go_ret
      rw [HE.out]
      exact ⟨b3, c3, C3, G3, Y3.out.1, Y3.out.2, rfl, HM3.out, HB3.out⟩
end Go.Proofs.Ytaffdoihmalilaa
