/- The vector of a label, and the program's maker of it. -/
import Derived.Test.YtmdmojklagmmiaaCop
namespace Go.Proofs.Ytmdmojklagmmiaa
open Go.RowKit
set_option linter.unusedSimpArgs false
set_option linter.unusedVariables false
/-- the vector of a label -/
def oneZ (i k : Nat) : Int := if k = i then 1 else 0
theorem made_one (w1 : World) (n i : Nat) : RowI (w1.alloc (.cells ((madeCells #[.int .i64 0] n).setIfInBounds i (.int .i64 1)) 2)) 2 w1.heap.size n (oneZ i) :=
  ⟨_, heap_alloc_new w1 _, fun j hj => by
    rw [Array.getElem?_setIfInBounds]
    simp only [oneZ]
    by_cases e : i = j
    · rw [if_pos e, if_pos (by rw [size_madeCells, e]; exact hj), if_pos e.symm]
    · rw [if_neg e, if_neg (fun h => e h.symm)]; simp [madeCells, hj, Nat.mod_one]⟩
theorem vectorWith_f (n i : Nat) (w : World) (hi : i < n) (hn : n ≤ 1000) :
    Calls Try.prog 196 #[.int .i64 n, .int .i64 i] w fun e w' => ∃ g, e = .returned (.slice (some ⟨g, 0, none⟩) n n) ∧ w.heap.size ≤ g ∧ RowI w' 2 g n (oneZ i) ∧ Below w.heap.size w w' := by
  have hmk := run_make_row' (P := Try.prog) 26 2 (.int .i64 0) 8 Try.underlying26 infoI64 rfl .i64 .i64 n (by omega) (by omega)
  have HR := Lib.hid (show RowI (w.alloc (.cells (madeCells #[.int .i64 0] n) 2)) 2 w.heap.size n (fun _ => 0) from (RowB_of_rowIs (World.rowIs_made w (.int .i64 0) n 2)))
  have e1 := RowB.cell HR.out hi
  have e2 := RowB.frozen HR.out i
  go_enter Try.func196, Try.ntmps196
  go_wp2_with fail
  go_ret
  exact ⟨w.heap.size, rfl, Nat.le_refl _, made_one w n i, below_alloc _ _⟩
end Go.Proofs.Ytmdmojklagmmiaa
