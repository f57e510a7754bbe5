/- Families of rings (the program's): the codes of arguments. -/
import Derived.Test.YtmdmojklagmmiaaFpM
import Derived.Test.YtmdmojklagmmiaaFpA
import Derived.Handy
namespace Go.Proofs.Ytmdmojklagmmiaa
open Go.RowKit
set_option linter.unusedSimpArgs false
set_option linter.unusedVariables false
theorem rangeCode_f (k lo hi : Int) (w : World) : Calls Try.prog 71 #[.int .i64 k, .int .i64 lo, .int .i64 hi] w fun e w' => e = .returned (.int .i64 (rgC lo hi k)) ∧ w = w' := by
  by_cases h : k < lo ∨ hi < k
  · have HF := Lib.hid (show rgC lo hi k = 2 from if_pos h)
    rcases h with h | h
    · go_enter Try.func71, Try.ntmps71
      go_wp2_with fail
      go_ret
      exact ⟨by rw [HF.out] <;> rfl, rfl⟩
    · by_cases h1 : k < lo
      · go_enter Try.func71, Try.ntmps71
        go_wp2_with fail
        go_ret
        exact ⟨by rw [HF.out] <;> rfl, rfl⟩
      · go_enter Try.func71, Try.ntmps71
        go_wp2_with fail
        go_ret
        exact ⟨by rw [HF.out] <;> rfl, rfl⟩
  · have HF := Lib.hid (show rgC lo hi k = 0 from if_neg h)
    have h1 : ¬ k < lo := by omega
    have h2 : ¬ hi < k := by omega
    go_enter Try.func71, Try.ntmps71
    go_wp2_with fail
    go_ret
    exact ⟨by rw [HF.out] <;> rfl, rfl⟩
/-- type assertions of the families -/
theorem ta_group (v : Value) (w : World) : (Instr.typeAssert (.iface 114 v) 86 114 true).run Try.prog w = .ok (.tuple #[v, .bool true]) w := by kernel_rfl
theorem ta_nearGroup_group (v : Value) (w : World) : (Instr.typeAssert (.iface 116 v) 86 114 true).run Try.prog w = .ok (.tuple #[.agg #[.slice none 0 0], .bool false]) w := by kernel_rfl
theorem ta_nearGroup (v : Value) (w : World) : (Instr.typeAssert (.iface 116 v) 86 116 true).run Try.prog w = .ok (.tuple #[v, .bool true]) w := by kernel_rfl
theorem ta_dihedralGroup_group (v : Value) (w : World) : (Instr.typeAssert (.iface 117 v) 86 114 true).run Try.prog w = .ok (.tuple #[.agg #[.slice none 0 0], .bool false]) w := by kernel_rfl
theorem ta_dihedralGroup_nearGroup (v : Value) (w : World) : (Instr.typeAssert (.iface 117 v) 86 116 true).run Try.prog w = .ok (.tuple #[.agg #[.slice none 0 0, .int .i64 0], .bool false]) w := by kernel_rfl
theorem ta_dihedralGroup (v : Value) (w : World) : (Instr.typeAssert (.iface 117 v) 86 117 true).run Try.prog w = .ok (.tuple #[v, .bool true]) w := by kernel_rfl
theorem ta_dihedral_group (v : Value) (w : World) : (Instr.typeAssert (.iface 63 v) 86 114 true).run Try.prog w = .ok (.tuple #[.agg #[.slice none 0 0], .bool false]) w := by kernel_rfl
theorem ta_dihedral_nearGroup (v : Value) (w : World) : (Instr.typeAssert (.iface 63 v) 86 116 true).run Try.prog w = .ok (.tuple #[.agg #[.slice none 0 0, .int .i64 0], .bool false]) w := by kernel_rfl
theorem ta_dihedral_dihedralGroup (v : Value) (w : World) : (Instr.typeAssert (.iface 63 v) 86 117 true).run Try.prog w = .ok (.tuple #[.agg #[.int .i64 0], .bool false]) w := by kernel_rfl
theorem ta_dihedral (v : Value) (w : World) : (Instr.typeAssert (.iface 63 v) 86 63 true).run Try.prog w = .ok (.tuple #[v, .bool true]) w := by kernel_rfl
theorem ta_spins_group (v : Value) (w : World) : (Instr.typeAssert (.iface 119 v) 86 114 true).run Try.prog w = .ok (.tuple #[.agg #[.slice none 0 0], .bool false]) w := by kernel_rfl
theorem ta_spins_nearGroup (v : Value) (w : World) : (Instr.typeAssert (.iface 119 v) 86 116 true).run Try.prog w = .ok (.tuple #[.agg #[.slice none 0 0, .int .i64 0], .bool false]) w := by kernel_rfl
theorem ta_spins_dihedralGroup (v : Value) (w : World) : (Instr.typeAssert (.iface 119 v) 86 117 true).run Try.prog w = .ok (.tuple #[.agg #[.int .i64 0], .bool false]) w := by kernel_rfl
theorem ta_spins_dihedral (v : Value) (w : World) : (Instr.typeAssert (.iface 119 v) 86 63 true).run Try.prog w = .ok (.tuple #[.agg #[.int .i64 0], .bool false]) w := by kernel_rfl
theorem ta_spins (v : Value) (w : World) : (Instr.typeAssert (.iface 119 v) 86 119 true).run Try.prog w = .ok (.tuple #[v, .bool true]) w := by kernel_rfl
theorem ta_evenSpins_group (v : Value) (w : World) : (Instr.typeAssert (.iface 120 v) 86 114 true).run Try.prog w = .ok (.tuple #[.agg #[.slice none 0 0], .bool false]) w := by kernel_rfl
theorem ta_evenSpins_nearGroup (v : Value) (w : World) : (Instr.typeAssert (.iface 120 v) 86 116 true).run Try.prog w = .ok (.tuple #[.agg #[.slice none 0 0, .int .i64 0], .bool false]) w := by kernel_rfl
theorem ta_evenSpins_dihedralGroup (v : Value) (w : World) : (Instr.typeAssert (.iface 120 v) 86 117 true).run Try.prog w = .ok (.tuple #[.agg #[.int .i64 0], .bool false]) w := by kernel_rfl
theorem ta_evenSpins_dihedral (v : Value) (w : World) : (Instr.typeAssert (.iface 120 v) 86 63 true).run Try.prog w = .ok (.tuple #[.agg #[.int .i64 0], .bool false]) w := by kernel_rfl
theorem ta_evenSpins_spins (v : Value) (w : World) : (Instr.typeAssert (.iface 120 v) 86 119 true).run Try.prog w = .ok (.tuple #[.agg #[.int .i64 0], .bool false]) w := by kernel_rfl
theorem ta_evenSpins (v : Value) (w : World) : (Instr.typeAssert (.iface 120 v) 86 120 true).run Try.prog w = .ok (.tuple #[v, .bool true]) w := by kernel_rfl
theorem ta_ringProduct_group (v : Value) (w : World) : (Instr.typeAssert (.iface 122 v) 86 114 true).run Try.prog w = .ok (.tuple #[.agg #[.slice none 0 0], .bool false]) w := by kernel_rfl
theorem ta_ringProduct_nearGroup (v : Value) (w : World) : (Instr.typeAssert (.iface 122 v) 86 116 true).run Try.prog w = .ok (.tuple #[.agg #[.slice none 0 0, .int .i64 0], .bool false]) w := by kernel_rfl
theorem ta_ringProduct_dihedralGroup (v : Value) (w : World) : (Instr.typeAssert (.iface 122 v) 86 117 true).run Try.prog w = .ok (.tuple #[.agg #[.int .i64 0], .bool false]) w := by kernel_rfl
theorem ta_ringProduct_dihedral (v : Value) (w : World) : (Instr.typeAssert (.iface 122 v) 86 63 true).run Try.prog w = .ok (.tuple #[.agg #[.int .i64 0], .bool false]) w := by kernel_rfl
theorem ta_ringProduct_spins (v : Value) (w : World) : (Instr.typeAssert (.iface 122 v) 86 119 true).run Try.prog w = .ok (.tuple #[.agg #[.int .i64 0], .bool false]) w := by kernel_rfl
theorem ta_ringProduct_evenSpins (v : Value) (w : World) : (Instr.typeAssert (.iface 122 v) 86 120 true).run Try.prog w = .ok (.tuple #[.agg #[.int .i64 0], .bool false]) w := by kernel_rfl
theorem ta_ringProduct (v : Value) (w : World) : (Instr.typeAssert (.iface 122 v) 86 122 true).run Try.prog w = .ok (.tuple #[v, .bool true]) w := by kernel_rfl
set_option maxRecDepth 100000 in
set_option maxHeartbeats 2000000 in
theorem argc_spins (k : Int) (w : World) : Calls Try.prog 66 #[.iface 119 (.agg #[.int .i64 k])] w fun e w' => e = .returned (.int .i64 (rgC 0 15 k)) ∧ Below w.heap.size w w' := by
  have HR := Lib.hid (fun u => rangeCode_f k 0 15 u)
  have t0 := ta_spins_group (.agg #[.int .i64 k]); have t1 := ta_spins_nearGroup (.agg #[.int .i64 k]); have t2 := ta_spins_dihedralGroup (.agg #[.int .i64 k]); have t3 := ta_spins_dihedral (.agg #[.int .i64 k]); have t4 := ta_spins (.agg #[.int .i64 k])
  go_enter Try.func66, Try.ntmps66
  go_wp2_with fail
  refine (HR.out _).mono ?_
  rintro e w1 ⟨rfl, rfl⟩
  go_wp2_with fail
  go_ret
  exact ⟨rfl, by go_grown⟩
set_option maxRecDepth 100000 in
set_option maxHeartbeats 2000000 in
theorem argc_evenSpins (k : Int) (w : World) : Calls Try.prog 66 #[.iface 120 (.agg #[.int .i64 k])] w fun e w' => e = .returned (.int .i64 (rgC 0 31 k)) ∧ Below w.heap.size w w' := by
  have HR := Lib.hid (fun u => rangeCode_f k 0 31 u)
  have t0 := ta_evenSpins_group (.agg #[.int .i64 k]); have t1 := ta_evenSpins_nearGroup (.agg #[.int .i64 k]); have t2 := ta_evenSpins_dihedralGroup (.agg #[.int .i64 k]); have t3 := ta_evenSpins_dihedral (.agg #[.int .i64 k]); have t4 := ta_evenSpins_spins (.agg #[.int .i64 k]); have t5 := ta_evenSpins (.agg #[.int .i64 k])
  go_enter Try.func66, Try.ntmps66
  go_wp2_with fail
  refine (HR.out _).mono ?_
  rintro e w1 ⟨rfl, rfl⟩
  go_wp2_with fail
  go_ret
  exact ⟨rfl, by go_grown⟩
set_option maxRecDepth 100000 in
set_option maxHeartbeats 2000000 in
theorem argc_dihedralGroup (k : Int) (w : World) : Calls Try.prog 66 #[.iface 117 (.agg #[.int .i64 k])] w fun e w' => e = .returned (.int .i64 (rgC 1 8 k)) ∧ Below w.heap.size w w' := by
  have HR := Lib.hid (fun u => rangeCode_f k 1 8 u)
  have t0 := ta_dihedralGroup_group (.agg #[.int .i64 k]); have t1 := ta_dihedralGroup_nearGroup (.agg #[.int .i64 k]); have t2 := ta_dihedralGroup (.agg #[.int .i64 k])
  go_enter Try.func66, Try.ntmps66
  go_wp2_with fail
  refine (HR.out _).mono ?_
  rintro e w1 ⟨rfl, rfl⟩
  go_wp2_with fail
  go_ret
  exact ⟨rfl, by go_grown⟩
set_option maxRecDepth 100000 in
set_option maxHeartbeats 2000000 in
theorem argc_dihedral (k : Int) (w : World) : Calls Try.prog 66 #[.iface 63 (.agg #[.int .i64 k])] w fun e w' => e = .returned (.int .i64 (rgC 1 18 k)) ∧ Below w.heap.size w w' := by
  have HR := Lib.hid (fun u => rangeCode_f k 1 18 u)
  have t0 := ta_dihedral_group (.agg #[.int .i64 k]); have t1 := ta_dihedral_nearGroup (.agg #[.int .i64 k]); have t2 := ta_dihedral_dihedralGroup (.agg #[.int .i64 k]); have t3 := ta_dihedral (.agg #[.int .i64 k])
  go_enter Try.func66, Try.ntmps66
  go_wp2_with fail
  refine (HR.out _).mono ?_
  rintro e w1 ⟨rfl, rfl⟩
  go_wp2_with fail
  go_ret
  exact ⟨rfl, by go_grown⟩
end Go.Proofs.Ytmdmojklagmmiaa
