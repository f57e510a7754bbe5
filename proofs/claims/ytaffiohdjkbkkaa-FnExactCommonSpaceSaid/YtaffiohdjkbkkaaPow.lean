/- Powers of matrices, in both programs. -/
import Derived.Test.YtaffiohdjkbkkaaCop
namespace Go.Proofs.Ytaffiohdjkbkkaa
open Go.RowKit
def unitK : Mat := fun i j => if i = j then 1 else 0
/-- the rounds of a power -/
def powIt (n : Nat) (A S : Mat) (k : Nat) : Mat :=
  if h : k = 0 then A else powIt n (if k % 2 = 1 then mulK n A S else A) (mulK n S S) (k / 2)
termination_by k
decreasing_by omega
theorem powIt_zero (n : Nat) (A S : Mat) : powIt n A S 0 = A := by unfold powIt; simp
theorem powIt_odd {n k : Nat} {A S : Mat} (h : k % 2 = 1) : powIt n A S k = powIt n (mulK n A S) (mulK n S S) (k / 2) := by
  conv => lhs; unfold powIt
  rw [dif_neg (by omega), if_pos h]
theorem powIt_even {n k : Nat} {A S : Mat} (h0 : 0 < k) (h : ¬ k % 2 = 1) : powIt n A S k = powIt n A (mulK n S S) (k / 2) := by
  conv => lhs; unfold powIt
  rw [dif_neg (by omega), if_neg h]
theorem unit_row (i j : Nat) : vK (diagK (fun _ _ => 0) 1 i j) = vK (unitK i j) := by
  unfold diagK unitK
  by_cases e : i = j
  · rw [if_pos e, if_pos e]; rfl
  · rw [if_neg e, if_neg e]
theorem unitMatrix_f (n : Nat) (w : World) (h0 : 0 < n) (hn : n ≤ 1000) :
    Calls Try.prog 169 #[.int .i64 n] w (RetM 80 123 w n (fun _ => n) (fun i j => vK (unitK i j))) := by
  go_enter Try.func169, Try.ntmps169
  go_wp2_with fail
  refine (zeroMatrix_f n n _ hn hn h0).mono ?_
  rintro e w1 ⟨rfl, hz, hb1, -⟩
  have HZ := Lib.hid hz.rd
  have HB1 := Lib.hid hb1
  clear hz hb1
  have HC := Lib.hid (plusOnDiagonal_f (some ⟨w.heap.size + 1, 0, none⟩) n n (fun _ _ => 0) 1 w1 (HZ.out.congr (fun _ _ => rfl) (fun _ _ _ _ => rfl)) h0 hn)
  rw [vK_one] at HC
  go_wp2_with fail
  refine HC.out.mono ?_
  rintro e w2 ⟨b, cp, C, G, y1, y2, rfl, hM, hB⟩
  have HM := Lib.hid hM
  have HB := Lib.hid hB
  clear hM hB
  go_wp2_with fail
  go_ret
  exact ⟨b, cp, C, G, y1, y2, rfl, (HM.out.mono HB1.out.size).congr (fun i _ j _ => unit_row i j), HB1.out.trans (HB.out.mono HB1.out.size)⟩
theorem l02Unit_f (n : Nat) (w : World) (hn : n ≤ 1000) :
    Calls Try.prog 109 #[.int .i64 n] w (RetM 23 2 w n (fun _ => n) (fun i j => vK (unitK i j))) := by
  have hmk := run_make_row' (P := Try.prog) 23 2 (.int .i64 0) 8 Try.underlying23 infoI64 rfl .i64 .i64 n (by omega) (by omega)
  have HMK := Lib.hid hmk
  clear hmk
  go_enter Try.func109, Try.ntmps109
  go_wp2_with fail
  go_loopw [3, 4] (fun v i wr => ∃ (q g c : Nat) (C G : Nat → Nat), q ≤ n ∧ i = .int .i64 q ∧ v = .slice (some ⟨g, 0, none⟩) q c ∧ AccM w wr 23 2 (.slice (some ⟨g, 0, none⟩) q c) q (fun _ => n) C G (fun i j => vK (unitK i j))) (fun _ i _ => n - (intOf i).toNat)
  case atStart => exact ⟨0, _, _, fun _ => 0, fun _ => 0, by omega, rfl, rfl, AccM.start _ _ _ _ _ _ _⟩
  case round =>
    obtain ⟨q, g, cg, C', G', hq, rfl, rfl, hacc⟩ := hrel
    have HA := Lib.hid hacc
    clear hacc
    by_cases hlt : q < n
    · have hmk := HMK.out
      have HR0 := Lib.hid (RowB_of_rowIs (World.rowIs_made wr (.int .i64 0) n 2))
      have e1 := RowB.cell HR0.out hlt
      have e2 := RowB.frozen HR0.out q
      have HR1 := Lib.hid (show RowI (wr.alloc (.cells ((madeCells #[.int .i64 0] n).setIfInBounds q (.int .i64 1)) 2)) 2 wr.heap.size n (fun j => vK (unitK q j)) from
        ⟨_, heap_alloc_new wr _, fun j hj => by
          rw [Array.getElem?_setIfInBounds]
          simp only [unitK]
          by_cases e : q = j
          · rw [if_pos e, if_pos (by rw [size_madeCells, e]; exact hj), if_pos e]; rfl
          · rw [if_neg e, if_neg e]; simp [madeCells, hj, Nat.mod_one]; rfl⟩)
      have HB1 := Lib.hid (show Below wr.heap.size wr (wr.alloc (.cells ((madeCells #[.int .i64 0] n).setIfInBounds q (.int .i64 1)) 2)) from below_alloc _ _)
      have HK := Lib.hid (HA.out.kept HB1.out)
      have hsz := HA.out.bel.size
      go_wp2_with (at_builtin; go_loud (refine pushRow _ rfl _ _ rfl w.heap.size _ q _ rfl (HK.out.own.alloc _) ⟨wr.heap.size + 1, 0, none⟩ (some ⟨wr.heap.size, 0, none⟩) n n rfl (by have := cell_one_new (wr.alloc (.cells ((madeCells #[.int .i64 0] n).setIfInBounds q (.int .i64 1)) 2)) (.slice (some ⟨wr.heap.size, 0, none⟩) n n) 23; simpa using this) (by omega) (by simp; omega) ?_; intro g3 c3 w3 hown3 hgr3))
      have HP := Lib.hid (HA.out.push (by decide) HB1.out (Nat.le_refl _) HR1.out rfl (Nat.le_refl _) (by unfold maxLen; omega) _ hown3 hgr3)
      clear hmk e1 e2
      go_roundw
      case rel => exact ⟨q + 1, g3, c3, _, _, by omega, by go_num, rfl, HP.out⟩
      case measure => simp [intOf]; omega
    · obtain rfl : q = n := by omega
      go_wp2_with fail
      go_ret
      obtain ⟨d1, d2, d3⟩ := HA.out.done
      exact ⟨g, cg, _, _, d1, d2, rfl, d3, HA.out.bel⟩
end Go.Proofs.Ytaffiohdjkbkkaa
