/- Powers of labels: of both. -/
import Derived.Test.YtpfodikmidgpmaaRgL
import Derived.Deep.RegionHeld3
namespace Go.Proofs.Ytpfodikmidgpmaa
open Go.RowKit
set_option linter.unusedSimpArgs false
/-- the vector of a label -/
def oneZ (i k : Nat) : Int := if k = i then 1 else 0
theorem oneZ_bd (i k : Nat) : 0 ≤ oneZ i k ∧ oneZ i k ≤ 1 := by unfold oneZ; split <;> omega
/-- powers of a label -/
def pwZ (n : Nat) (f : Nat → Nat → Nat → Int) (i : Nat) : Nat → Nat → Int
  | 0 => oneZ 0
  | t + 1 => timZ n f (pwZ n f i t) (oneZ i)
def okV (n : Nat) (v : Nat → Int) : Bool := decide (∀ k, k < n → v k ≤ 1000000000)
theorem okV_t {n : Nat} {v : Nat → Int} (h : okV n v = true) : ∀ k, k < n → v k ≤ 1000000000 := of_decide_eq_true h
theorem okV_mk {n : Nat} {v : Nat → Int} (h : ∀ k, k < n → v k ≤ 1000000000) : okV n v = true := decide_eq_true h
theorem okV_no {n k : Nat} {v : Nat → Int} (hk : k < n) (h : 1000000000 < v k) : okV n v = false := decide_eq_false fun c => by have := c k hk; omega
def okP (n : Nat) (f : Nat → Nat → Nat → Int) (i k : Nat) : Bool := decide (∀ t, t < k → okV n (pwZ n f i (t + 1)) = true)
theorem okP_mk {n : Nat} {f : Nat → Nat → Nat → Int} {i k : Nat} (h : ∀ t, t < k → okV n (pwZ n f i (t + 1)) = true) : okP n f i k = true := decide_eq_true h
theorem okP_no {n : Nat} {f : Nat → Nat → Nat → Int} {i k t : Nat} (ht : t < k) (h : okV n (pwZ n f i (t + 1)) = false) : okP n f i k = false := decide_eq_false fun c => by rw [c t ht] at h; cases h
theorem sumZ_nonneg {g : Nat → Int} {n : Nat} (h : ∀ i, i < n → 0 ≤ g i) : 0 ≤ sumZ g n := by
  induction n with
  | zero => exact Int.le_refl _
  | succ n ih => simp only [sumZ]; have := ih (fun i hi => h i (by omega)); have := h n (by omega); omega
theorem pw_nonneg {n : Nat} {f : Nat → Nat → Nat → Int} (hf : ∀ i j k, i < n → j < n → k < n → 0 ≤ f i j k) (i : Nat) : ∀ t k, k < n → 0 ≤ pwZ n f i t k := by
  intro t
  induction t with
  | zero => intro k _; exact (oneZ_bd 0 k).1
  | succ t ih =>
    intro k hk
    show 0 ≤ timZ n f (pwZ n f i t) (oneZ i) k
    unfold timZ
    exact sumZ_nonneg fun a ha => sumZ_nonneg fun b hb => Int.mul_nonneg (Int.mul_nonneg (ih a ha) (oneZ_bd i b).1) (hf a b k ha hb hk)
theorem pw_xy {n : Nat} {f : Nat → Nat → Nat → Int} (hf : ∀ i j k, i < n → j < n → k < n → 0 ≤ f i j k) {i t : Nat} (h : ∀ s, s < t → okV n (pwZ n f i (s + 1)) = true) : ∀ a b, a < n → b < n → 0 ≤ pwZ n f i t a * oneZ i b ∧ pwZ n f i t a * oneZ i b ≤ 1000000000000 := by
  intro a b ha hb
  have h1 : pwZ n f i t a ≤ 1000000000 := by
    cases t with
    | zero => have := oneZ_bd 0 a; show oneZ 0 a ≤ _; omega
    | succ t => exact okV_t (h t (by omega)) a ha
  have := mul_le ⟨pw_nonneg hf i t a ha, h1⟩ (oneZ_bd i b)
  omega
theorem made_one (w1 : World) (n i : Nat) : RowI (w1.alloc (.cells ((madeCells #[.int .i64 0] n).setIfInBounds i (.int .i64 1)) 2)) 2 w1.heap.size n (oneZ i) :=
  ⟨_, heap_alloc_new w1 _, fun j hj => by
    rw [Array.getElem?_setIfInBounds]
    simp only [oneZ]
    by_cases e : i = j
    · rw [if_pos e, if_pos (by rw [size_madeCells, e]; exact hj), if_pos e.symm]
    · rw [if_neg e, if_neg (fun h => e h.symm)]; simp [madeCells, hj, Nat.mod_one]⟩
theorem l03One_f (a : Option Addr) (n c i : Nat) (w : World) (hi : i < n) (hn : n ≤ 1000) :
    Calls Try.prog 106 #[.agg #[.slice a n c], .int .i64 i] w fun e w' => ∃ g, e = .returned (.slice (some ⟨g, 0, none⟩) n n) ∧ w.heap.size ≤ g ∧ RowI w' 2 g n (oneZ i) ∧ Below w.heap.size w w' := by
  have hmk := run_make_row' (P := Try.prog) 32 2 (.int .i64 0) 8 Try.underlying32 infoI64 rfl .i64 .i64 n (by omega) (by omega)
  have HB := Lib.hid (below_alloc w (.cells #[.slice a n c] 28))
  have hR := RowB_of_rowIs (World.rowIs_made (w.alloc (.cells #[.slice a n c] 28)) (.int .i64 0) n 2)
  have e1 := RowB.cell hR hi
  have e2 := RowB.frozen hR i
  have HM := Lib.hid (made_one (w.alloc (.cells #[.slice a n c] 28)) n i)
  simp only [World.size_alloc] at e1 e2 HM
  clear hR
  go_enter Try.func106, Try.ntmps106
  go_wp2_with fail
  go_ret
  exact ⟨w.heap.size + 1, rfl, by omega, HM.out, HB.out.alloc HB.out.size _⟩
/-- the greatest number of a list -/
def maxZ (x : Nat → Int) : Nat → Int
  | 0 => x 0
  | n + 1 => if maxZ x n < x n then x n else maxZ x n
theorem maxZ_ok {n : Nat} {x : Nat → Int} (h0 : 0 < n) : decide (1000000000 < maxZ x n) = !okV n x := by
  have key : ∀ m, (1000000000 < maxZ x m) ↔ (1000000000 < x 0 ∨ ∃ k, k < m ∧ 1000000000 < x k) := by
    intro m
    induction m with
    | zero => exact ⟨Or.inl, fun h => by rcases h with h | ⟨k, hk, _⟩; exact h; omega⟩
    | succ m ih =>
      simp only [maxZ]
      rw [show (1000000000 < (if maxZ x m < x m then x m else maxZ x m)) ↔ (1000000000 < maxZ x m ∨ 1000000000 < x m) by split <;> omega, ih]
      constructor
      · rintro ((h | ⟨k, hk, h⟩) | h)
        · exact Or.inl h
        · exact Or.inr ⟨k, by omega, h⟩
        · exact Or.inr ⟨m, by omega, h⟩
      · rintro (h | ⟨k, hk, h⟩)
        · exact Or.inl (Or.inl h)
        · by_cases e : k = m
          · rw [e] at h; exact Or.inr h
          · exact Or.inl (Or.inr ⟨k, by omega, h⟩)
  by_cases e : 1000000000 < maxZ x n
  · rw [decide_eq_true e]
    have : okV n x = false := by
      rcases (key n).1 e with h | ⟨k, hk, h⟩
      · exact okV_no h0 h
      · exact okV_no hk h
    rw [this]; rfl
  · rw [decide_eq_false e, okV_mk fun k hk => by
      refine Int.not_lt.1 fun h => e ((key n).2 (Or.inr ⟨k, hk, h⟩))]
    rfl
end Go.Proofs.Ytpfodikmidgpmaa
