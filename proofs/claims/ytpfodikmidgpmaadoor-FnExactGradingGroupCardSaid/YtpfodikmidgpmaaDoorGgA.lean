/- The cosets of a subring part the labels; their numbers come in the order of their first labels. -/
import Derived.Test.YtpfodikmidgpmaaDoorSbS
namespace Go.Proofs.YtpfodikmidgpmaaDoor
open Go.RowKit
set_option linter.unusedSimpArgs false
set_option linter.unusedVariables false
/-- k is in the coset of i -/
def InC (n : Nat) (f : Nat → Nat → Nat → Int) (s i k : Nat) : Prop := (cosI n f s i).testBit k = true
theorem inC_lt {n : Nat} {f : Nat → Nat → Nat → Int} {s i k : Nat} (h : InC n f s i k) : k < n := bit_lt cosI_lt h
theorem inC_refl {n : Nat} {f : Nat → Nat → Nat → Int} (R : Rng n f) {s i : Nat} (hS : Sbr n f s) (hi : i < n) : InC n f s i i :=
  (cosI_bit R.h16 hS.1 hi).2 ⟨hi, 0, R.h0, hS.2.1, by rw [R.unitr i i hi hi, if_pos rfl]; omega⟩
theorem inC_symm {n : Nat} {f : Nat → Nat → Nat → Int} (R : Rng n f) {s i k : Nat} (hS : Sbr n f s) (hi : i < n) (h : InC n f s i k) : InC n f s k i := by
  obtain ⟨hk, j, hj, bj, hf⟩ := (cosI_bit R.h16 hS.1 hi).1 h
  refine (cosI_bit R.h16 hS.1 hk).2 ⟨hi, dn n f j, R.dlt j hj, sbr_dual R hS.2.2 hj bj, ?_⟩
  rw [← R.turn2 i j k hi hj hk]; exact hf
theorem inC_trans {n : Nat} {f : Nat → Nat → Nat → Int} (R : Rng n f) {s i k l : Nat} (hS : Sbr n f s) (hi : i < n) (h : InC n f s i k) (h' : InC n f s k l) : InC n f s i l := by
  obtain ⟨hk, a, ha, ba, hf⟩ := (cosI_bit R.h16 hS.1 hi).1 h
  obtain ⟨hl, b, hb, bb, hg⟩ := (cosI_bit R.h16 hS.1 hk).1 h'
  have hpos : ∀ x y z, x < n → y < n → z < n → 0 ≤ f x y z := fun x y z hx hy hz => (R.num x y z hx hy hz).1
  have h1 : f i a k * f k b l ≤ s1 n f i a b l := sumZ_term (g := fun m => f i a m * f m b l) (fun m hm => Int.mul_nonneg (hpos _ _ _ hi ha hm) (hpos _ _ _ hm hb hl)) hk
  have p1 := hpos i a k hi ha hk
  have p2 := hpos k b l hk hb hl
  have h2 : 0 < f i a k * f k b l := Int.mul_pos (by omega) (by omega)
  rw [R.assoc i a b l hi ha hb hl] at h1
  obtain ⟨m, hm, hp⟩ := sumZ_some (g := fun m => f a b m * f i m l) (n := n) (fun m hm => Int.mul_nonneg (hpos _ _ _ ha hb hm) (hpos _ _ _ hi hm hl)) (show 0 < s2 n f i a b l by omega)
  refine (cosI_bit R.h16 hS.1 hi).2 ⟨hl, m, hm, hS.2.2 a b m ha hb hm ba bb fun e => ?_, fun e => ?_⟩
  · simp only [e, Int.zero_mul] at hp; omega
  · simp only [e, Int.mul_zero] at hp; omega
/-- the state behind the labels below i -/
noncomputable def csI (n : Nat) (f : Nat → Nat → Nat → Int) (s i : Nat) : (Nat → Int) × Nat × Nat := csSt n f s (List.range i)
theorem csI_yes {n : Nat} {f : Nat → Nat → Nat → Int} {s i : Nat} (h : (csI n f s i).2.2.testBit i = true) : csI n f s (i + 1) = csI n f s i := by
  unfold csI at *
  rw [List.range_succ, csSt_yes h]
theorem csI_no {n : Nat} {f : Nat → Nat → Nat → Int} {s i : Nat} (h : (csI n f s i).2.2.testBit i = false) : csI n f s (i + 1) = (fun q => if q ∈ lbl (cosI n f s i) then ((csI n f s i).2.1 : Int) else (csI n f s i).1 q, (csI n f s i).2.1 + 1, (csI n f s i).2.2 ||| cosI n f s i) := by
  unfold csI at *
  rw [List.range_succ, csSt_no h]
theorem mem_cos {n : Nat} {f : Nat → Nat → Nat → Int} {s i q : Nat} (h16 : n ≤ 16) : q ∈ lbl (cosI n f s i) ↔ InC n f s i q := mem_lbl (Nat.lt_of_lt_of_le cosI_lt (pow_le16 h16))
theorem csI_done {n : Nat} {f : Nat → Nat → Nat → Int} (R : Rng n f) {s : Nat} (hS : Sbr n f s) : ∀ i, i ≤ n → ∀ k, (csI n f s i).2.2.testBit k = true ↔ ∃ j, j < i ∧ InC n f s j k := by
  intro i
  induction i with
  | zero =>
    intro _ k
    constructor
    · intro h
      rw [show (csI n f s 0).2.2 = 0 from rfl, Nat.zero_testBit] at h
      cases h
    · rintro ⟨j, hj, _⟩
      omega
  | succ i ih =>
    intro hi k
    have ih := ih (by omega)
    cases hb : (csI n f s i).2.2.testBit i
    · rw [csI_no hb, or_bit, ih k]
      constructor
      · rintro (⟨j, hj, h⟩ | h)
        · exact ⟨j, by omega, h⟩
        · exact ⟨i, by omega, h⟩
      · rintro ⟨j, hj, h⟩
        by_cases e : j = i
        · subst e; exact .inr h
        · exact .inl ⟨j, by omega, h⟩
    · rw [csI_yes hb, ih k]
      obtain ⟨j0, hj0, h0⟩ := (ih i).1 hb
      constructor
      · rintro ⟨j, hj, h⟩; exact ⟨j, by omega, h⟩
      · rintro ⟨j, hj, h⟩
        by_cases e : j = i
        · subst e; exact ⟨j0, hj0, inC_trans R hS (by omega) h0 h⟩
        · exact ⟨j, by omega, h⟩
theorem csI_keep {n : Nat} {f : Nat → Nat → Nat → Int} (R : Rng n f) {s : Nat} (hS : Sbr n f s) {i : Nat} : ∀ d, i + d ≤ n → ∀ k, (csI n f s i).2.2.testBit k = true → (csI n f s (i + d)).1 k = (csI n f s i).1 k := by
  intro d
  induction d with
  | zero => intro _ k _; rfl
  | succ d ih =>
    intro hd k hk
    have ih := ih (by omega) k hk
    rw [show i + (d + 1) = i + d + 1 from rfl]
    cases hb : (csI n f s (i + d)).2.2.testBit (i + d)
    · rw [csI_no hb]
      show (if k ∈ lbl (cosI n f s (i + d)) then _ else _) = _
      rw [if_neg, ih]
      intro hm
      have h1 := (mem_cos R.h16).1 hm
      obtain ⟨j, hj, h2⟩ := (csI_done R hS i (by omega) k).1 hk
      have h3 := inC_trans R hS (by omega) h2 (inC_symm R hS (by omega) h1)
      have := (csI_done R hS (i + d) (by omega) (i + d)).2 ⟨j, by omega, h3⟩
      rw [hb] at this; cases this
    · rw [csI_yes hb, ih]
theorem csI_bound {n : Nat} {f : Nat → Nat → Nat → Int} (R : Rng n f) {s : Nat} (hS : Sbr n f s) : ∀ i, i ≤ n → ∀ k, (csI n f s i).2.2.testBit k = true → 0 ≤ (csI n f s i).1 k ∧ (csI n f s i).1 k < (csI n f s i).2.1 := by
  intro i
  induction i with
  | zero => intro _ k h; rw [show (csI n f s 0).2.2 = 0 from rfl, Nat.zero_testBit] at h; cases h
  | succ i ih =>
    intro hi k hk
    cases hb : (csI n f s i).2.2.testBit i
    · rw [csI_no hb] at hk ⊢
      by_cases hm : k ∈ lbl (cosI n f s i)
      · simp only [if_pos hm]; omega
      · simp only [if_neg hm]
        rcases or_bit.1 hk with h | h
        · have := ih (by omega) k h; omega
        · exact absurd ((mem_cos R.h16).2 h) hm
    · rw [csI_yes hb] at hk ⊢
      exact ih (by omega) k hk
/-- numbers that come in the order of their first places, without a gap; c i: how many there are below i -/
structure Grow (n : Nat) (N : Nat → Int) (c : Nat → Nat) : Prop where
  zero : c 0 = 0
  step : ∀ i, i < n → 0 ≤ N i ∧ ((N i < c i ∧ c (i + 1) = c i) ∨ (N i = c i ∧ c (i + 1) = c i + 1))
theorem cs_grow {n : Nat} {f : Nat → Nat → Nat → Int} (R : Rng n f) {s : Nat} (hS : Sbr n f s) : Grow n (csN n f s) (fun i => (csI n f s i).2.1) := by
  have hN : csN n f s = (csI n f s n).1 := by unfold csN csI; rw [lbl_all R.h16]
  refine ⟨rfl, fun i hi => ?_⟩
  rw [hN]
  have hd1 : (csI n f s (i + 1)).2.2.testBit i = true := (csI_done R hS (i + 1) (by omega) i).2 ⟨i, by omega, inC_refl R hS hi⟩
  have hk := csI_keep R hS (i := i + 1) (n - (i + 1)) (by omega) i hd1
  rw [show i + 1 + (n - (i + 1)) = n by omega] at hk
  rw [hk]
  have hbd := csI_bound R hS (i + 1) (by omega) i hd1
  refine ⟨hbd.1, ?_⟩
  cases hb : (csI n f s i).2.2.testBit i
  · right
    have e := csI_no hb
    refine ⟨?_, ?_⟩
    · rw [e]
      show (if i ∈ lbl (cosI n f s i) then ((csI n f s i).2.1 : Int) else _) = _
      rw [if_pos ((mem_cos R.h16).2 (inC_refl R hS hi))]
    · show (csI n f s (i + 1)).2.1 = _
      rw [e]
  · left
    have e := csI_yes hb
    rw [e] at hbd ⊢
    exact ⟨hbd.2, rfl⟩
theorem Grow.mono {n : Nat} {N : Nat → Int} {c : Nat → Nat} (h : Grow n N c) {i j : Nat} (hij : i ≤ j) (hj : j ≤ n) : c i ≤ c j := by
  obtain ⟨d, rfl⟩ : ∃ d, j = i + d := ⟨j - i, by omega⟩
  induction d with
  | zero => exact Nat.le_refl _
  | succ d ih =>
    have h1 := ih (by omega) (by omega)
    have h2 := (h.step (i + d) (by omega)).2
    rw [show i + (d + 1) = i + d + 1 from rfl]
    rcases h2 with ⟨_, h2⟩ | ⟨_, h2⟩ <;> omega
theorem Grow.below {n : Nat} {N : Nat → Int} {c : Nat → Nat} (h : Grow n N c) {i j : Nat} (hij : i < j) (hj : j ≤ n) : N i < c j := by
  have h1 := h.mono (show i + 1 ≤ j by omega) hj
  rcases (h.step i (by omega)).2 with ⟨h2, h3⟩ | ⟨h2, h3⟩ <;> omega
/-- the first place of a number -/
theorem Grow.first {n : Nat} {N : Nat → Int} {c : Nat → Nat} (h : Grow n N c) {a : Nat} : ∀ m, m ≤ n → a < c m → ∃ i, i < m ∧ N i = a ∧ c i = a ∧ ∀ j, j < i → N j ≠ a := by
  intro m
  induction m with
  | zero => intro _ ha; rw [h.zero] at ha; omega
  | succ m ih =>
    intro hm ha
    rcases (h.step m (by omega)).2 with ⟨h2, h3⟩ | ⟨h2, h3⟩
    · obtain ⟨i, hi, e⟩ := ih (by omega) (by omega)
      exact ⟨i, by omega, e⟩
    · by_cases e : a = c m
      · subst e
        exact ⟨m, by omega, h2, rfl, fun j hj hN => by have := h.below hj (show m ≤ n by omega); omega⟩
      · obtain ⟨i, hi, e⟩ := ih (by omega) (by omega)
        exact ⟨i, by omega, e⟩
end Go.Proofs.YtpfodikmidgpmaaDoor
