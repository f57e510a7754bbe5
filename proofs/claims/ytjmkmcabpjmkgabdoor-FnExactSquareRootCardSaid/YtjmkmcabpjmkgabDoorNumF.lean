/- Order, logarithm and square root of chapter 1. -/
import Derived.Test.YtjmkmcabpjmkgabDoorNumD
import Derived.Test.YtjmkmcabpjmkgabDoorOrd
import Derived.Laws.Rows
import Derived.Lib.LaidTab
namespace Go.Proofs.YtjmkmcabpjmkgabDoor
open Go.RowKit
/-- the table of factors lies in its variable -/
def UnitTab (w : World) : Prop := ∀ i : Nat, i < 9 → w.cell? ⟨0, i, none⟩ = some (.int .i64 (unitAt i : Nat))
theorem unitTab_below {B : Nat} {w w' : World} (h : UnitTab w) (hb : Below B w w') (hB : 0 < B) : UnitTab w' := fun i hi => by
  rw [hb.cell (p := ⟨0, i, none⟩) hB]; exact h i hi
/-- the table as a value -/
def unitAgg : Value := .agg #[.int .i64 2, .int .i64 2, .int .i64 2, .int .i64 2, .int .i64 3, .int .i64 3, .int .i64 5, .int .i64 7, .int .i64 11]
theorem unit_index0 (w : World) : (Instr.index 47 (.agg #[.int .i64 2, .int .i64 2, .int .i64 2, .int .i64 2, .int .i64 3, .int .i64 3, .int .i64 5, .int .i64 7, .int .i64 11]) (.int .i64 0)).run Tryd.prog w = .ok (.int .i64 2) w := by kernel_rfl
theorem unit_index1 (w : World) : (Instr.index 47 (.agg #[.int .i64 2, .int .i64 2, .int .i64 2, .int .i64 2, .int .i64 3, .int .i64 3, .int .i64 5, .int .i64 7, .int .i64 11]) (.int .i64 1)).run Tryd.prog w = .ok (.int .i64 2) w := by kernel_rfl
theorem unit_index2 (w : World) : (Instr.index 47 (.agg #[.int .i64 2, .int .i64 2, .int .i64 2, .int .i64 2, .int .i64 3, .int .i64 3, .int .i64 5, .int .i64 7, .int .i64 11]) (.int .i64 2)).run Tryd.prog w = .ok (.int .i64 2) w := by kernel_rfl
theorem unit_index3 (w : World) : (Instr.index 47 (.agg #[.int .i64 2, .int .i64 2, .int .i64 2, .int .i64 2, .int .i64 3, .int .i64 3, .int .i64 5, .int .i64 7, .int .i64 11]) (.int .i64 3)).run Tryd.prog w = .ok (.int .i64 2) w := by kernel_rfl
theorem unit_index4 (w : World) : (Instr.index 47 (.agg #[.int .i64 2, .int .i64 2, .int .i64 2, .int .i64 2, .int .i64 3, .int .i64 3, .int .i64 5, .int .i64 7, .int .i64 11]) (.int .i64 4)).run Tryd.prog w = .ok (.int .i64 3) w := by kernel_rfl
theorem unit_index5 (w : World) : (Instr.index 47 (.agg #[.int .i64 2, .int .i64 2, .int .i64 2, .int .i64 2, .int .i64 3, .int .i64 3, .int .i64 5, .int .i64 7, .int .i64 11]) (.int .i64 5)).run Tryd.prog w = .ok (.int .i64 3) w := by kernel_rfl
theorem unit_index6 (w : World) : (Instr.index 47 (.agg #[.int .i64 2, .int .i64 2, .int .i64 2, .int .i64 2, .int .i64 3, .int .i64 3, .int .i64 5, .int .i64 7, .int .i64 11]) (.int .i64 6)).run Tryd.prog w = .ok (.int .i64 5) w := by kernel_rfl
theorem unit_index7 (w : World) : (Instr.index 47 (.agg #[.int .i64 2, .int .i64 2, .int .i64 2, .int .i64 2, .int .i64 3, .int .i64 3, .int .i64 5, .int .i64 7, .int .i64 11]) (.int .i64 7)).run Tryd.prog w = .ok (.int .i64 7) w := by kernel_rfl
theorem unit_index8 (w : World) : (Instr.index 47 (.agg #[.int .i64 2, .int .i64 2, .int .i64 2, .int .i64 2, .int .i64 3, .int .i64 3, .int .i64 5, .int .i64 7, .int .i64 11]) (.int .i64 8)).run Tryd.prog w = .ok (.int .i64 11) w := by kernel_rfl
theorem unit_index (k : Nat) (hk : k < 9) (w : World) : (Instr.index 47 (.agg #[.int .i64 2, .int .i64 2, .int .i64 2, .int .i64 2, .int .i64 3, .int .i64 3, .int .i64 5, .int .i64 7, .int .i64 11]) (.int .i64 k)).run Tryd.prog w = .ok (.int .i64 (unitAt k : Nat)) w := by
  have hk' : k = 0 ∨ k = 1 ∨ k = 2 ∨ k = 3 ∨ k = 4 ∨ k = 5 ∨ k = 6 ∨ k = 7 ∨ k = 8 := by omega
  rcases hk' with rfl | rfl | rfl | rfl | rfl | rfl | rfl | rfl | rfl
  · exact unit_index0 w
  · exact unit_index1 w
  · exact unit_index2 w
  · exact unit_index3 w
  · exact unit_index4 w
  · exact unit_index5 w
  · exact unit_index6 w
  · exact unit_index7 w
  · exact unit_index8 w
end Go.Proofs.YtjmkmcabpjmkgabDoor
