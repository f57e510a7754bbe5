/- Weights of a step: of both; WeightsOf. -/
import Derived.Test.YtpfodikmidgpmaaDmA
import Derived.Test.YtpfodikmidgpmaaRgQ
namespace Go.Proofs.Ytpfodikmidgpmaa
open Go.RowKit
set_option linter.unusedSimpArgs false
/-- the weights of a step -/
def wtZ (n : Nat) (f : Nat → Nat → Nat → Int) : Nat → Nat → Int
  | 0 => fun _ => 1
  | t + 1 => nxZ n f (wtZ n f t)
/-- no number is above L -/
def leV (L : Int) (n : Nat) (v : Nat → Int) : Bool := decide (∀ k, k < n → v k ≤ L)
theorem leV_t {L : Int} {n : Nat} {v : Nat → Int} (h : leV L n v = true) : ∀ k, k < n → v k ≤ L := of_decide_eq_true h
theorem leV_mk {L : Int} {n : Nat} {v : Nat → Int} (h : ∀ k, k < n → v k ≤ L) : leV L n v = true := decide_eq_true h
theorem leV_no {L : Int} {n k : Nat} {v : Nat → Int} (hk : k < n) (h : L < v k) : leV L n v = false := decide_eq_false fun c => by have := c k hk; omega
theorem maxZ_lt (L : Int) {n : Nat} {x : Nat → Int} (h0 : 0 < n) : decide (L < maxZ x n) = !leV L n x := by
  have key : ∀ m, (L < maxZ x m) ↔ (L < x 0 ∨ ∃ k, k < m ∧ L < x k) := by
    intro m
    induction m with
    | zero => exact ⟨Or.inl, fun h => by rcases h with h | ⟨k, hk, _⟩; exact h; omega⟩
    | succ m ih =>
      simp only [maxZ]
      rw [show (L < (if maxZ x m < x m then x m else maxZ x m)) ↔ (L < maxZ x m ∨ L < x m) by split <;> omega, ih]
      constructor
      · rintro ((h | ⟨k, hk, h⟩) | h)
        · exact Or.inl h
        · exact Or.inr ⟨k, by omega, h⟩
        · exact Or.inr ⟨m, by omega, h⟩
      · rintro (h | ⟨k, hk, h⟩)
        · exact Or.inl (Or.inl h)
        · by_cases e : k = m
          · rw [e] at h; exact Or.inr h
          · exact Or.inl (Or.inr ⟨k, by omega, h⟩)
  by_cases e : L < maxZ x n
  · rw [decide_eq_true e]
    have : leV L n x = false := by
      rcases (key n).1 e with h | ⟨k, hk, h⟩
      · exact leV_no h0 h
      · exact leV_no hk h
    rw [this]; rfl
  · rw [decide_eq_false e, leV_mk fun k hk => by
      refine Int.not_lt.1 fun h => e ((key n).2 (Or.inr ⟨k, hk, h⟩))]
    rfl
def okT (n : Nat) (f : Nat → Nat → Nat → Int) (t : Nat) : Bool := decide (∀ s, s < t → leV 1000000 n (wtZ n f (s + 1)) = true)
theorem okT_mk {n : Nat} {f : Nat → Nat → Nat → Int} {t : Nat} (h : ∀ s, s < t → leV 1000000 n (wtZ n f (s + 1)) = true) : okT n f t = true := decide_eq_true h
theorem okT_t {n : Nat} {f : Nat → Nat → Nat → Int} {t : Nat} (h : okT n f t = true) : ∀ s, s < t → leV 1000000 n (wtZ n f (s + 1)) = true := of_decide_eq_true h
theorem okT_no {n : Nat} {f : Nat → Nat → Nat → Int} {t s : Nat} (hs : s < t) (h : leV 1000000 n (wtZ n f (s + 1)) = false) : okT n f t = false := decide_eq_false fun c => by rw [c s hs] at h; cases h
theorem wt_nonneg {n : Nat} {f : Nat → Nat → Nat → Int} (hf : ∀ i j k, i < n → j < n → k < n → 0 ≤ f i j k ∧ f i j k ≤ 1000) (t : Nat) : ∀ k, k < n → 0 ≤ wtZ n f t k := by
  induction t with
  | zero => intro k _; simp [wtZ]
  | succ t ih => intro j hj; exact sumZ_pos fun i hi => sumZ_pos fun k hk => Int.mul_nonneg (hf i j k hi hj hk).1 (ih k hk)
theorem wt_bd {n : Nat} {f : Nat → Nat → Nat → Int} (hf : ∀ i j k, i < n → j < n → k < n → 0 ≤ f i j k ∧ f i j k ≤ 1000) {t : Nat} (h : ∀ s, s < t → leV 1000000 n (wtZ n f (s + 1)) = true) : ∀ k, k < n → 0 ≤ wtZ n f t k ∧ wtZ n f t k ≤ 1000000 := by
  intro k hk
  refine ⟨wt_nonneg hf t k hk, ?_⟩
  cases t with
  | zero => simp [wtZ]
  | succ t => exact leV_t (h t (by omega)) k hk
/-- what the weights give: the list, or that a number was too great -/
def WtRes (w : World) (n : Nat) (f : Nat → Nat → Nat → Int) (t : Nat) (e : Ending) (w' : World) : Prop :=
  (okT n f t = true ∧ ∃ g cg, e = .returned (.tuple #[.slice (some ⟨g, 0, none⟩) n cg, .bool true]) ∧ w.heap.size ≤ g ∧ RowI w' 2 g n (wtZ n f t) ∧ Below w.heap.size w w') ∨
  (okT n f t = false ∧ e = .returned (.tuple #[.slice none 0 0, .bool false]) ∧ Below w.heap.size w w')
end Go.Proofs.Ytpfodikmidgpmaa
