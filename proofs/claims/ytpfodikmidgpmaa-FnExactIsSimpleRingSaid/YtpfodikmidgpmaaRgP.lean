/- PowerOfLabel of both. -/
import Derived.Test.YtpfodikmidgpmaaRgN
namespace Go.Proofs.Ytpfodikmidgpmaa
open Go.RowKit
set_option linter.unusedSimpArgs false
def labB (n : Nat) (i : Int) : Bool := decide (0 ≤ i ∧ i < n)
def expB (k : Int) : Bool := decide (0 ≤ k ∧ k ≤ 40)
theorem lab_in (n : Nat) (i : Int) : inB 0 ((n : Int) - 1) i = labB n i := by
  unfold labB
  by_cases h : 0 ≤ i ∧ i < n
  · rw [decide_eq_true h, inB_mk h.1 (by omega)]
  · rw [decide_eq_false h, inB_no (by omega)]
theorem exp_in (k : Int) : inB 0 40 k = expB k := by
  unfold expB
  by_cases h : 0 ≤ k ∧ k ≤ 40
  · rw [decide_eq_true h, inB_mk h.1 h.2]
  · rw [decide_eq_false h, inB_no (by omega)]
/-- the code of a power -/
def cPow (r l o : Bool) : Int := if r then (if l then (if o then 0 else 3) else 2) else 1
theorem hasLabel_f (a : Option Addr) (n c : Nat) (i : Int) (w : World) : Calls Try.prog 57 #[.agg #[.slice a n c], .int .i64 i] w fun e w' => e = .returned (.bool (labB n i)) ∧ Below w.heap.size w w' := by
  by_cases h : 0 ≤ i
  · have hd : decide (0 ≤ i) = true := by simp; omega
    by_cases h2 : i < n
    · have hd2 : decide (i < (n : Int)) = true := by simp; omega
      have HF := Lib.hid (show true = labB n i from (decide_eq_true ⟨h, h2⟩).symm)
      go_enter Try.func57, Try.ntmps57
      go_wp2_with fail
      refine (rank_f _ n c _).mono ?_
      rintro e w1 ⟨rfl, hb1⟩
      have HB := Lib.hid ((below_alloc w (.cells #[.slice a n c] 28)).trans (hb1.mono (by simp)))
      clear hb1
      go_wp2_with fail
      go_ret
      exact ⟨ret_bool HF.out, HB.out⟩
    · have hd2 : decide (i < (n : Int)) = false := by simp; omega
      have HF := Lib.hid (show false = labB n i from (decide_eq_false (fun c => h2 c.2)).symm)
      go_enter Try.func57, Try.ntmps57
      go_wp2_with fail
      refine (rank_f _ n c _).mono ?_
      rintro e w1 ⟨rfl, hb1⟩
      have HB := Lib.hid ((below_alloc w (.cells #[.slice a n c] 28)).trans (hb1.mono (by simp)))
      clear hb1
      go_wp2_with fail
      go_ret
      exact ⟨ret_bool HF.out, HB.out⟩
  · have hd : decide (0 ≤ i) = false := by simp; omega
    have HF := Lib.hid (show false = labB n i from (decide_eq_false (fun c => h c.1)).symm)
    go_enter Try.func57, Try.ntmps57
    go_wp2_with fail
    go_ret
    exact ⟨ret_bool HF.out, below_alloc _ _⟩
theorem l03Label_f (a : Option Addr) (n c : Nat) (i : Int) (w : World) (hn : n ≤ 1048576) : Calls Try.prog 55 #[.agg #[.slice a n c], .int .i64 i] w fun e w' => e = .returned (.bool (labB n i)) ∧ Below w.heap.size w w' := by
  have HI := Lib.hid (fun u => l01In_any i 0 ((n : Int) - 1) u)
  rw [lab_in] at HI
  have hw : IntKind.i64.wrap ((n : Int) - 1) = (n : Int) - 1 := IntWalk.i64_in _ (by omega)
  go_enter Try.func55, Try.ntmps55
  go_wp2_with fail
  refine (HI.out _).mono ?_
  rintro e w1 ⟨rfl, rfl⟩
  go_wp2_with fail
  go_ret
  exact ⟨rfl, below_alloc _ _⟩
theorem implPow_f_rows (n : Nat) (M : Nat → Nat) (L : Nat → Nat → Nat) (f : Nat → Nat → Nat → Int) (i k : Int) : nRg (ringB n M L f && (labB n i && expB k) && okP n f i.toNat k.toNat) n ≤ 64 := by
  cases hr : ringB n M L f
  · simp [nRg]
  · have := (cub_num (ringB_t hr).1).2.1
    unfold nRg; split <;> omega
end Go.Proofs.Ytpfodikmidgpmaa
