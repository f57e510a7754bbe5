/- Order, logarithm and square root of chapter 1. -/
import Derived.Test.YtjmkmcabpjmkgaaDoorNumD
import Derived.Test.YtjmkmcabpjmkgaaDoorOrd
import Derived.Laws.Rows
import Derived.Lib.LaidTab
namespace Go.Proofs.YtjmkmcabpjmkgaaDoor
open Go.RowKit
/-- the table of factors lies in its variable -/
def UnitTab (w : World) : Prop := ∀ i : Nat, i < 9 → w.cell? ⟨0, i, none⟩ = some (.int .i64 (unitAt i : Nat))
theorem unitTab_below {B : Nat} {w w' : World} (h : UnitTab w) (hb : Below B w w') (hB : 0 < B) : UnitTab w' := fun i hi => by
  rw [hb.cell (p := ⟨0, i, none⟩) hB]; exact h i hi
/-- the table as a value -/
def unitAgg : Value := .agg #[.int .i64 2, .int .i64 2, .int .i64 2, .int .i64 2, .int .i64 3, .int .i64 3, .int .i64 5, .int .i64 7, .int .i64 11]
theorem unit_index0 (w : World) : (Instr.index 65 (.agg #[.int .i64 2, .int .i64 2, .int .i64 2, .int .i64 2, .int .i64 3, .int .i64 3, .int .i64 5, .int .i64 7, .int .i64 11]) (.int .i64 0)).run Tryd.prog w = .ok (.int .i64 2) w := by kernel_rfl
theorem unit_index1 (w : World) : (Instr.index 65 (.agg #[.int .i64 2, .int .i64 2, .int .i64 2, .int .i64 2, .int .i64 3, .int .i64 3, .int .i64 5, .int .i64 7, .int .i64 11]) (.int .i64 1)).run Tryd.prog w = .ok (.int .i64 2) w := by kernel_rfl
theorem unit_index2 (w : World) : (Instr.index 65 (.agg #[.int .i64 2, .int .i64 2, .int .i64 2, .int .i64 2, .int .i64 3, .int .i64 3, .int .i64 5, .int .i64 7, .int .i64 11]) (.int .i64 2)).run Tryd.prog w = .ok (.int .i64 2) w := by kernel_rfl
theorem unit_index3 (w : World) : (Instr.index 65 (.agg #[.int .i64 2, .int .i64 2, .int .i64 2, .int .i64 2, .int .i64 3, .int .i64 3, .int .i64 5, .int .i64 7, .int .i64 11]) (.int .i64 3)).run Tryd.prog w = .ok (.int .i64 2) w := by kernel_rfl
theorem unit_index4 (w : World) : (Instr.index 65 (.agg #[.int .i64 2, .int .i64 2, .int .i64 2, .int .i64 2, .int .i64 3, .int .i64 3, .int .i64 5, .int .i64 7, .int .i64 11]) (.int .i64 4)).run Tryd.prog w = .ok (.int .i64 3) w := by kernel_rfl
theorem unit_index5 (w : World) : (Instr.index 65 (.agg #[.int .i64 2, .int .i64 2, .int .i64 2, .int .i64 2, .int .i64 3, .int .i64 3, .int .i64 5, .int .i64 7, .int .i64 11]) (.int .i64 5)).run Tryd.prog w = .ok (.int .i64 3) w := by kernel_rfl
theorem unit_index6 (w : World) : (Instr.index 65 (.agg #[.int .i64 2, .int .i64 2, .int .i64 2, .int .i64 2, .int .i64 3, .int .i64 3, .int .i64 5, .int .i64 7, .int .i64 11]) (.int .i64 6)).run Tryd.prog w = .ok (.int .i64 5) w := by kernel_rfl
theorem unit_index7 (w : World) : (Instr.index 65 (.agg #[.int .i64 2, .int .i64 2, .int .i64 2, .int .i64 2, .int .i64 3, .int .i64 3, .int .i64 5, .int .i64 7, .int .i64 11]) (.int .i64 7)).run Tryd.prog w = .ok (.int .i64 7) w := by kernel_rfl
theorem unit_index8 (w : World) : (Instr.index 65 (.agg #[.int .i64 2, .int .i64 2, .int .i64 2, .int .i64 2, .int .i64 3, .int .i64 3, .int .i64 5, .int .i64 7, .int .i64 11]) (.int .i64 8)).run Tryd.prog w = .ok (.int .i64 11) w := by kernel_rfl
theorem unit_index (k : Nat) (hk : k < 9) (w : World) : (Instr.index 65 (.agg #[.int .i64 2, .int .i64 2, .int .i64 2, .int .i64 2, .int .i64 3, .int .i64 3, .int .i64 5, .int .i64 7, .int .i64 11]) (.int .i64 k)).run Tryd.prog w = .ok (.int .i64 (unitAt k : Nat)) w := by
  have hk' : k = 0 ∨ k = 1 ∨ k = 2 ∨ k = 3 ∨ k = 4 ∨ k = 5 ∨ k = 6 ∨ k = 7 ∨ k = 8 := by omega
  rcases hk' with rfl | rfl | rfl | rfl | rfl | rfl | rfl | rfl | rfl
  · exact unit_index0 w
  · exact unit_index1 w
  · exact unit_index2 w
  · exact unit_index3 w
  · exact unit_index4 w
  · exact unit_index5 w
  · exact unit_index6 w
  · exact unit_index7 w
  · exact unit_index8 w
theorem order_any (a : Int) (d : Nat) (w : World) (h0 : 0 < a) (h1 : a < 55441) (hd : NT.IsOrder a.toNat d) (hT : UnitTab w) : Calls Tryd.prog 36 #[.int .i64 a] w fun e w' => e = .returned (.int .i64 d) ∧ w = w' := by
  have Hd := Lib.hid hd
  clear hd
  have Hs := Lib.hid (ordI_start a.toNat (by omega))
  have t0 : w.cell? ⟨0, 0, none⟩ = some (.int .i64 2) := hT 0 (by omega)
  have t1 : w.cell? ⟨0, 1, none⟩ = some (.int .i64 2) := hT 1 (by omega)
  have t2 : w.cell? ⟨0, 2, none⟩ = some (.int .i64 2) := hT 2 (by omega)
  have t3 : w.cell? ⟨0, 3, none⟩ = some (.int .i64 2) := hT 3 (by omega)
  have t4 : w.cell? ⟨0, 4, none⟩ = some (.int .i64 3) := hT 4 (by omega)
  have t5 : w.cell? ⟨0, 5, none⟩ = some (.int .i64 3) := hT 5 (by omega)
  have t6 : w.cell? ⟨0, 6, none⟩ = some (.int .i64 5) := hT 6 (by omega)
  have t7 : w.cell? ⟨0, 7, none⟩ = some (.int .i64 7) := hT 7 (by omega)
  have t8 : w.cell? ⟨0, 8, none⟩ = some (.int .i64 11) := hT 8 (by omega)
  go_enter Tryd.func36, Tryd.ntmps36
  go_wp2
  clear t0 t1 t2 t3 t4 t5 t6 t7 t8
  go_loop [3, 5, 7] (fun o _ i => ∃ on k : Nat, k ≤ 9 ∧ on ≤ 55440 ∧ o = .int .i64 on ∧ i = .int .i64 k ∧ OrdI a.toNat k on) (fun _ _ i => 9 - (intOf i).toNat)
  case atStart => exact ⟨55440, 0, by omega, by omega, rfl, rfl, Hs.out⟩
  case round =>
    obtain ⟨on, k, hk, ho, rfl, rfl, hr⟩ := hrel
    by_cases hlt : k < 9
    · obtain ⟨p, hp⟩ : ∃ p : Nat, p = unitAt k := ⟨_, rfl⟩
      have hidx := unit_index k hlt
      obtain ⟨hp1, hp2⟩ := unitAt_bd k
      rw [← hp] at hidx hp1 hp2
      have hq0 : 0 ≤ (on : Int) / (p : Int) := Int.ediv_nonneg (by omega) (by omega)
      have hq1 : (on : Int) / (p : Int) ≤ 55440 := Int.le_trans (Int.ediv_le_self _ (by omega)) (by omega)
      have ep : pwI a ((on : Int) / (p : Int)) = ((a.toNat ^ (on / p) % 55441 : Nat) : Int) := by
        unfold pwI
        have e1 : ((on : Int) / (p : Int)).toNat = on / p := by rw [← Int.natCast_ediv]; rfl
        rw [e1]
      by_cases hpw : pwI a ((on : Int) / (p : Int)) = 1
      · have hn : OrdI a.toNat (k + 1) (on / p) := by
          rw [hp]; refine ordI_yes hr hlt ?_
          rw [← hp]; omega
        have en : ((on / p : Nat) : Int) = (on : Int) / (p : Int) := Int.natCast_ediv _ _
        have Hn := Lib.hid hn
        have En := Lib.hid en
        have hpw' : (pwI a ((on : Int) / (p : Int)) == 1) = true := by simp [hpw]
        clear hpw hn en hr ep hp
        go_wp2_with (go_at_call 40; refine (power_any _ _ _ (by omega) (by omega) (by omega) (by omega)).mono ?_; rintro e w' ⟨rfl, rfl⟩)
        go_round
        case rel => exact ⟨on / p, k + 1, by omega, by have h2 := En.out; omega, by rw [En.out], by go_num, Hn.out⟩
        case measure => simp [intOf]; omega
      · have hn : OrdI a.toNat (k + 1) on := by
          refine ordI_no hr hlt ?_
          rw [← hp]; omega
        have Hn := Lib.hid hn
        have hpw' : (pwI a ((on : Int) / (p : Int)) == 1) = false := by simp [hpw]
        clear hpw hn hr ep hp
        go_wp2_with (go_at_call 40; refine (power_any _ _ _ (by omega) (by omega) (by omega) (by omega)).mono ?_; rintro e w' ⟨rfl, rfl⟩)
        go_round
        case rel => exact ⟨on, k + 1, by omega, by omega, rfl, by go_num, Hn.out⟩
        case measure => simp [intOf]; omega
    · obtain rfl : k = 9 := by omega
      have := NT.order_unique (ordI_end hr) Hd.out
      have Hq := Lib.hid this
      clear this hr
      go_wp2
      go_ret
      exact ⟨ret_int (by rw [Hq.out]), rfl⟩
end Go.Proofs.YtjmkmcabpjmkgaaDoor
