/- Contracts of the arithmetic of chapter 1. -/
import Derived.Test.YtmdmojklagmmiaaChecked
import Derived.Test.YtmdmojklagmmiaaNt
import Derived.WalkKit
import Derived.ProofKit
import Derived.WalkSpells
import Derived.Outline
import Derived.Lib.Hide
namespace Go.Proofs.Ytmdmojklagmmiaa
open Go.RowKit

/-- the power modulo the prime -/
def pwI (a k : Int) : Int := ((a.toNat ^ k.toNat % 55441 : Nat) : Int)
/-- what holds at the head of the loop of a power -/
def PowRel (a K r k s : Int) : Prop := r.toNat * s.toNat ^ k.toNat % 55441 = a.toNat ^ K.toNat % 55441
theorem ret_int {k : IntKind} {a b : Int} (h : a = b) : Ending.returned (.int k a) = .returned (.int k b) := by rw [h]
theorem powRel_start (a K : Int) : PowRel a K 1 K a := by simp [PowRel]
theorem mul_bound (r s : Int) (r0 : 0 ≤ r) (r1 : r < 55441) (s0 : 0 ≤ s) (s1 : s < 55441) : 0 ≤ r * s ∧ r * s ≤ 3073593600 := by
  refine ⟨Int.mul_nonneg r0 s0, ?_⟩
  have h1 : r * s ≤ 55440 * s := Int.mul_le_mul_of_nonneg_right (by omega) s0
  omega
theorem toNat_mulmod (r s : Int) (r0 : 0 ≤ r) (s0 : 0 ≤ s) : (r * s % 55441).toNat = r.toNat * s.toNat % 55441 := by
  obtain ⟨m, rfl⟩ := Int.eq_ofNat_of_zero_le r0
  obtain ⟨n, rfl⟩ := Int.eq_ofNat_of_zero_le s0
  rw [Int.toNat_natCast, Int.toNat_natCast, ← Int.natCast_mul]
  omega
theorem powRel_step (x k : Nat) : x ^ k = (x * x) ^ (k / 2) * (if k % 2 = 1 then x else 1) := by
  have e : x * x = x ^ 2 := by rw [Nat.pow_two]
  rw [e, ← Nat.pow_mul]
  split
  · rename_i h
    rw [← Nat.pow_succ, show (2 * (k / 2)).succ = k from by omega]
  · rename_i h
    rw [Nat.mul_one, show 2 * (k / 2) = k from by omega]
theorem powRel_odd (a K r k s : Int) (r0 : 0 ≤ r) (s0 : 0 ≤ s) (hk : 0 < k) (ho : k % 2 = 1) (h : PowRel a K r k s) : PowRel a K (r * s % 55441) (k / 2) (s * s % 55441) := by
  unfold PowRel at *
  rw [← h, toNat_mulmod r s r0 s0, toNat_mulmod s s s0 s0]
  have ek : (k / 2).toNat = k.toNat / 2 := by omega
  rw [ek, powRel_step s.toNat k.toNat, if_pos (by omega)]
  generalize k.toNat / 2 = m
  generalize r.toNat = x
  generalize s.toNat = y
  rw [Nat.mul_mod, Nat.mod_mod, ← Nat.pow_mod, ← Nat.mul_mod]
  rw [Nat.mul_comm ((y * y) ^ m) y, Nat.mul_assoc]
theorem powRel_even (a K r k s : Int) (s0 : 0 ≤ s) (hk : 0 < k) (ho : ¬ k % 2 = 1) (h : PowRel a K r k s) : PowRel a K r (k / 2) (s * s % 55441) := by
  unfold PowRel at *
  rw [← h, toNat_mulmod s s s0 s0]
  have ek : (k / 2).toNat = k.toNat / 2 := by omega
  rw [ek, powRel_step s.toNat k.toNat, if_neg (by omega), Nat.mul_one]
  rw [Nat.mul_mod, ← Nat.pow_mod, ← Nat.mul_mod]
theorem powRel_end (a K r k s : Int) (r0 : 0 ≤ r) (r1 : r < 55441) (hk : k = 0) (h : PowRel a K r k s) : r = pwI a K := by
  unfold PowRel at h
  unfold pwI
  rw [← h, hk]
  simp
  omega
/-- is it a number? -/
def numB (a : Int) : Bool := decide (0 ≤ a) && decide (a < 55441)
/-- is it in a range? -/
def inB (lo hi n : Int) : Bool := decide (lo ≤ n) && decide (n ≤ hi)
theorem numB_t {a : Int} (h : numB a = true) : 0 ≤ a ∧ a < 55441 := by simpa [numB] using h
theorem numB_f {a : Int} (h : numB a = false) : a < 0 ∨ 55441 ≤ a := by
  by_cases h0 : 0 ≤ a
  · simp [numB, h0] at h; omega
  · omega
theorem numB_mk {a : Int} (h : 0 ≤ a) (h' : a < 55441) : numB a = true := by simp [numB, h, h']
theorem numB_no {a : Int} (h : a < 0 ∨ 55441 ≤ a) : numB a = false := by
  cases e : numB a
  · rfl
  · have := numB_t e; omega
theorem inB_t {lo hi n : Int} (h : inB lo hi n = true) : lo ≤ n ∧ n ≤ hi := by simpa [inB] using h
theorem inB_f {lo hi n : Int} (h : inB lo hi n = false) : n < lo ∨ hi < n := by
  by_cases h0 : lo ≤ n
  · simp [inB, h0] at h; omega
  · omega
theorem inB_mk {lo hi n : Int} (h : lo ≤ n) (h' : n ≤ hi) : inB lo hi n = true := by simp [inB, h, h']
theorem inB_no {lo hi n : Int} (h : n < lo ∨ hi < n) : inB lo hi n = false := by
  cases e : inB lo hi n
  · rfl
  · have := inB_t e; omega
theorem numB_inB (n : Int) : inB 0 55440 n = numB n := by
  cases e : numB n
  · apply inB_no; have := numB_f e; omega
  · have := numB_t e; exact inB_mk this.1 (by omega)
theorem ret_bool {a b : Bool} (h : a = b) : Ending.returned (.bool a) = .returned (.bool b) := by rw [h]
theorem ret_pair {k k' : IntKind} {a b c d : Int} (h : a = b) (h' : c = d) : Ending.returned (.tuple #[.int k a, .int k' c]) = .returned (.tuple #[.int k b, .int k' d]) := by rw [h, h']
theorem l01In_any (n lo hi : Int) (w : World) : Calls Try.prog 38 #[.int .i64 n, .int .i64 lo, .int .i64 hi] w fun e w' => e = .returned (.bool (inB lo hi n)) ∧ w = w' := by
  by_cases h : lo ≤ n
  · by_cases h' : n ≤ hi
    · have H := Lib.hid (inB_mk h h')
      go_enter Try.func38, Try.ntmps38
      go_wp2
      go_ret
      exact ⟨ret_bool H.out.symm, rfl⟩
    · have H := Lib.hid (inB_no (lo := lo) (hi := hi) (n := n) (by omega))
      have hd : decide (n ≤ hi) = false := by simp; omega
      clear h'
      go_enter Try.func38, Try.ntmps38
      go_wp2
      go_ret
      exact ⟨ret_bool H.out.symm, rfl⟩
  · have H := Lib.hid (inB_no (lo := lo) (hi := hi) (n := n) (by omega))
    have hl : n < lo := by omega
    clear h
    go_enter Try.func38, Try.ntmps38
    go_wp2
    go_ret
    exact ⟨ret_bool H.out.symm, rfl⟩
/-- the codes of two numbers -/
def c2 (a b : Int) : Int := if (numB a && numB b) = true then 0 else 2
def fAdd (a b : Int) : Int := if (numB a && numB b) = true then (a + b) % 55441 else 0
def fSub (a b : Int) : Int := if (numB a && numB b) = true then (a - b) % 55441 else 0
def fMul (a b : Int) : Int := if (numB a && numB b) = true then a * b % 55441 else 0
def fDiv (a b : Int) : Int := if (numB a && numB b && !(b == 0)) = true then a * pwI b 55439 % 55441 else 0
def cDiv (a b : Int) : Int := if (numB a && numB b) = true then (if b = 0 then 5 else 0) else 2
theorem pwI_bd (a k : Int) : 0 ≤ pwI a k ∧ pwI a k < 55441 := by unfold pwI; omega
end Go.Proofs.Ytmdmojklagmmiaa
