/- SubringFrom of both. -/
import Derived.Test.YtpfodikmidgpmaaDoorSbK
import Derived.Test.YtpfodikmidgpmaaDoorRgiP
namespace Go.Proofs.YtpfodikmidgpmaaDoor
open Go.RowKit
set_option linter.unusedSimpArgs false
set_option linter.unusedVariables false
/-- all numbers of a list are labels -/
def allL (n m : Nat) (x : Nat → Int) : Bool := decide (∀ j, j < m → 0 ≤ x j ∧ x j < n)
/-- the set of a list -/
noncomputable def liS (n m : Nat) (x : Nat → Int) : Nat := bset (fun k => ∃ j, j < m ∧ x j = (k : Int)) n
def cSF (r l : Bool) : Int := if r then (if l then 0 else 2) else 1
theorem allL_no {n m j : Nat} {x : Nat → Int} (hj : j < m) (h : labB n (x j) = false) : allL n m x = false := by
  refine decide_eq_false fun hc => ?_
  have := decide_eq_true (hc j hj)
  unfold labB at h
  rw [this] at h; cases h
theorem labB_t {n : Nat} {i : Int} (h : labB n i = true) : 0 ≤ i ∧ i < n := of_decide_eq_true h
theorem liS_of {n m t : Nat} {x : Nat → Int} (ht : t < 2 ^ n) (h : ∀ k, t.testBit k = true ↔ ∃ j, j < m ∧ x j = (k : Int)) : t = liS n m x := by
  refine set_ext fun k => ?_
  unfold liS
  rw [bset_bit]
  exact ⟨fun hb => ⟨bit_lt ht hb, (h k).1 hb⟩, fun hb => (h k).2 hb.2⟩
theorem gen_congr {n : Nat} {f : Nat → Nat → Nat → Int} {s t g : Nat} (h : ∀ T, Sbr n f T → (subS s T ↔ subS t T)) (hg : IsGen n f s g) : IsGen n f t g :=
  ⟨hg.1, (h g hg.1).1 hg.2.1, fun T hT hs => hg.2.2 T hT ((h T hT).2 hs)⟩
end Go.Proofs.YtpfodikmidgpmaaDoor
