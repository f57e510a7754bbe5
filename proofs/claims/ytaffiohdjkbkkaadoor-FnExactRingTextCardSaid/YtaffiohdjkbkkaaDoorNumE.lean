/- Roots of unity and short fractions of chapter 1. -/
import Derived.Test.YtaffiohdjkbkkaaDoorNumD
import Derived.Deep.RegionWith
namespace Go.Proofs.YtaffiohdjkbkkaaDoor
open Go.RowKit

/-- the numerator that belongs to a denominator -/
def shP (a q : Int) : Int := if 166 < a * q % 55441 then a * q % 55441 - 55441 else a * q % 55441
/-- the short fraction with the least denominator from q on; 0, 0 if there is none -/
def shSearch (a : Int) : Nat → Int → Int × Int
  | 0, _ => (0, 0)
  | n + 1, q => if -166 ≤ shP a q then (shP a q, q) else shSearch a n (q + 1)
def shFrom (a q : Int) : Int × Int := shSearch a (167 - q).toNat q
/-- the short fraction -/
def sp (a : Int) : Int := (shFrom a 1).1
def sq (a : Int) : Int := (shFrom a 1).2
theorem shFrom_end (a : Int) : shFrom a 167 = (0, 0) := rfl
theorem shFrom_hit (a q : Int) (hq : q ≤ 166) (h : -166 ≤ shP a q) : shFrom a q = (shP a q, q) := by
  unfold shFrom
  obtain ⟨n, hn⟩ : ∃ n : Nat, (167 - q).toNat = n + 1 := ⟨(166 - q).toNat, by omega⟩
  rw [hn, shSearch, if_pos h]
theorem shFrom_miss (a q : Int) (hq : q ≤ 166) (h : ¬ -166 ≤ shP a q) : shFrom a q = shFrom a (q + 1) := by
  unfold shFrom
  obtain ⟨n, hn⟩ : ∃ n : Nat, (167 - q).toNat = n + 1 := ⟨(166 - q).toNat, by omega⟩
  have hn' : (167 - (q + 1)).toNat = n := by omega
  rw [hn, hn', shSearch, if_neg h]
theorem shFrom_hit1 (a q : Int) (hq : q ≤ 166) (hx : 166 < a * q % 55441) (hy : -166 ≤ a * q % 55441 - 55441) : shFrom a q = (a * q % 55441 - 55441, q) := by
  have e : shP a q = a * q % 55441 - 55441 := by unfold shP; rw [if_pos hx]
  rw [shFrom_hit a q hq (by rw [e]; exact hy), e]
theorem shFrom_hit2 (a q : Int) (hq : q ≤ 166) (hx : ¬ 166 < a * q % 55441) (_hy : 0 ≤ a * q % 55441) : shFrom a q = (a * q % 55441, q) := by
  have e : shP a q = a * q % 55441 := by unfold shP; rw [if_neg hx]
  rw [shFrom_hit a q hq (by rw [e]; omega), e]
theorem short_bd (a q : Int) (h0 : 0 ≤ a) (h1 : a < 55441) (q0 : 1 ≤ q) (hq : q ≤ 166) : 0 ≤ a * q ∧ a * q ≤ 9203040 := by
  refine ⟨Int.mul_nonneg h0 (by omega), ?_⟩
  have h2 : a * q ≤ 55440 * q := Int.mul_le_mul_of_nonneg_right (by omega) (by omega)
  omega
/-- the bounds of a short fraction -/
theorem shFrom_bd (a : Int) : ∀ (n : Nat) (q : Int), 0 ≤ q → -166 ≤ (shSearch a n q).1 ∧ (shSearch a n q).1 ≤ 166 ∧ 0 ≤ (shSearch a n q).2 ∧ (shSearch a n q).2 ≤ q + n := by
  intro n
  induction n with
  | zero => intro q hq; simp [shSearch]; omega
  | succ n ih =>
    intro q hq
    rw [shSearch]
    split
    · rename_i h
      refine ⟨h, ?_, hq, by omega⟩
      show shP a q ≤ 166
      unfold shP; split <;> omega
    · have := ih (q + 1) (by omega)
      omega
theorem sp_bd (a : Int) : -166 ≤ sp a ∧ sp a ≤ 166 ∧ 0 ≤ sq a ∧ sq a ≤ 167 := by
  have := shFrom_bd a 166 1 (by omega)
  show -166 ≤ (shSearch a 166 1).1 ∧ (shSearch a 166 1).1 ≤ 166 ∧ 0 ≤ (shSearch a 166 1).2 ∧ (shSearch a 166 1).2 ≤ 167
  omega
theorem ret_pairs {a b : Int} {x : Int × Int} (h : x = (a, b)) : Ending.returned (.tuple #[.int .i64 a, .int .i64 b]) = .returned (.tuple #[.int .i64 x.1, .int .i64 x.2]) := by rw [h]
theorem ret_triples {a b : Int} {c : Bool} {x : Int × Int} (h : x = (a, b)) (h' : (!(x.2 == 0)) = c) : Ending.returned (.tuple #[.int .i64 a, .int .i64 b, .bool c]) = .returned (.tuple #[.int .i64 x.1, .int .i64 x.2, .bool (!(x.2 == 0))]) := by rw [h', h]
def cShort (a : Int) : Int := if numB a = true then (if sq a = 0 then 4 else 0) else 2
def fsp (a : Int) : Int := if (numB a && !(sq a == 0)) = true then sp a else 0
def fsq (a : Int) : Int := if (numB a && !(sq a == 0)) = true then sq a else 0
theorem ret_int3 {a b c a' b' c' : Int} (h1 : a = a') (h2 : b = b') (h3 : c = c') : Ending.returned (.tuple #[.int .i64 a, .int .i64 b, .int .i64 c]) = .returned (.tuple #[.int .i64 a', .int .i64 b', .int .i64 c']) := by rw [h1, h2, h3]
def fRoot (n : Int) : Int := if 1 ≤ n ∧ 55440 % n = 0 then pwI 38 (55440 / n) else 0
def cRoot (n : Int) : Int := if 1 ≤ n then (if 55440 % n = 0 then 0 else 5) else 2
theorem quo_bd (n : Int) (h : 1 ≤ n) : 0 ≤ 55440 / n ∧ 55440 / n ≤ 55440 :=
  ⟨Int.ediv_nonneg (by omega) (by omega), Int.ediv_le_self _ (by omega)⟩
end Go.Proofs.YtaffiohdjkbkkaaDoor
