/- Orders of numbers: the model's loops. -/
import Derived.Test.YtaffiohdjkbkkaaDoorNumB
import Derived.BigQuiet
namespace Go.Proofs.YtaffiohdjkbkkaaDoor
open Go.RowKit
/-- what is known at the heads of the loops of l01Order: which primes are done -/
structure OrdAt (a : Nat) (i : Nat) (o : Nat) : Prop where
  dvd : o ∣ 55440
  one : a ^ o % 55441 = 1
  f2 : 1 ≤ i → NT.Fine a o 2
  f3 : 2 ≤ i → NT.Fine a o 3
  f5 : 3 ≤ i → NT.Fine a o 5
  f7 : 4 ≤ i → NT.Fine a o 7
  f11 : 5 ≤ i → NT.Fine a o 11
/-- the prime at a place -/
def primeAt (i : Nat) : Nat := if i = 0 then 2 else if i = 1 then 3 else if i = 2 then 5 else if i = 3 then 7 else 11
theorem primeAt_bd (i : Nat) : 2 ≤ primeAt i ∧ primeAt i ≤ 11 := by unfold primeAt; repeat' split
                                                                    all_goals omega
theorem ordAt_start (a : Nat) (h : a % 55441 ≠ 0) : OrdAt a 0 55440 :=
  ⟨Nat.dvd_refl _, NT.fermat a h, by omega, by omega, by omega, by omega, by omega⟩
theorem ordAt_pos {a i o : Nat} (h : OrdAt a i o) : 1 ≤ o ∧ o ≤ 55440 := by
  refine ⟨?_, Nat.le_of_dvd (by omega) h.dvd⟩
  rcases Nat.eq_zero_or_pos o with h0 | h0
  · have := h.dvd; rw [h0] at this; have := Nat.eq_zero_of_zero_dvd this; omega
  · exact h0
theorem ordAt_div {a i o p : Nat} (h : OrdAt a i o) (hp : 0 < p) (hd : o % p = 0) (h1 : a ^ (o / p) % 55441 = 1) : OrdAt a i (o / p) := by
  have hdv : o / p ∣ o := Nat.div_dvd_of_dvd (Nat.dvd_of_mod_eq_zero hd)
  exact ⟨Nat.dvd_trans hdv h.dvd, h1, fun g => NT.fine_of_div a o p 2 hd hp (h.f2 g), fun g => NT.fine_of_div a o p 3 hd hp (h.f3 g), fun g => NT.fine_of_div a o p 5 hd hp (h.f5 g), fun g => NT.fine_of_div a o p 7 hd hp (h.f7 g), fun g => NT.fine_of_div a o p 11 hd hp (h.f11 g)⟩
theorem ordAt_next {a i o : Nat} (h : OrdAt a i o) (hi : i < 5) (hf : NT.Fine a o (primeAt i)) : OrdAt a (i + 1) o := by
  unfold primeAt at hf
  have hi' : i = 0 ∨ i = 1 ∨ i = 2 ∨ i = 3 ∨ i = 4 := by omega
  rcases hi' with rfl | rfl | rfl | rfl | rfl <;> simp at hf <;>
    exact ⟨h.dvd, h.one, by first | (intro _; exact hf) | exact fun _ => h.f2 (by omega), by first | (intro _; exact hf) | exact fun _ => h.f3 (by omega) | omega, by first | (intro _; exact hf) | exact fun _ => h.f5 (by omega) | omega, by first | (intro _; exact hf) | exact fun _ => h.f7 (by omega) | omega, by first | (intro _; exact hf) | exact fun _ => h.f11 (by omega) | omega⟩
theorem ordAt_end {a o : Nat} (h : OrdAt a 5 o) : NT.IsOrder a o :=
  ⟨h.dvd, h.one, h.f2 (by omega), h.f3 (by omega), h.f5 (by omega), h.f7 (by omega), h.f11 (by omega)⟩
theorem primes_cell (w : World) (t : Nat) (j : Nat) (hj : j < 5) : (w.alloc (.cells #[.int .i64 2, .int .i64 3, .int .i64 5, .int .i64 7, .int .i64 11] t)).cell? ⟨w.heap.size, j, none⟩ = some (.int .i64 (primeAt j)) := by
  have hj' : j = 0 ∨ j = 1 ∨ j = 2 ∨ j = 3 ∨ j = 4 := by omega
  rcases hj' with rfl | rfl | rfl | rfl | rfl <;> simp [go_sem, primeAt]
theorem fine_int (a o p : Nat) : NT.Fine a o p ↔ ¬ ((o : Int) % (p : Int) = 0 ∧ pwI (a : Int) ((o : Int) / (p : Int)) = 1) := by
  unfold NT.Fine pwI
  have e1 : ((o : Int) / (p : Int)).toNat = o / p := by rw [← Int.natCast_ediv]; rfl
  rw [e1, Int.toNat_natCast]
  constructor <;> intro h g <;> apply h <;> refine ⟨by omega, by omega⟩
end Go.Proofs.YtaffiohdjkbkkaaDoor
