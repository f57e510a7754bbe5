/- What a ring is: the first fault of a cube. -/
import Derived.Test.YtmdmojklagmmiaaCub
namespace Go.Proofs.Ytmdmojklagmmiaa
/-- the least index with P below n, or n -/
def ff (P : Nat → Bool) : Nat → Nat
  | 0 => 0
  | n + 1 => if ff P n < n then ff P n else if P n = true then n else n + 1
theorem ff_le (P : Nat → Bool) (n : Nat) : ff P n ≤ n := by
  induction n with
  | zero => exact Nat.le_refl _
  | succ n ih =>
    simp only [ff]
    split
    · omega
    · split <;> omega
theorem ff_none {P : Nat → Bool} {n : Nat} (h : ∀ i, i < n → P i = false) : ff P n = n := by
  induction n with
  | zero => rfl
  | succ n ih =>
    have e := ih (fun i hi => h i (by omega))
    simp only [ff, e]
    rw [if_neg (by omega), h n (by omega)]
    simp
theorem ff_hit {P : Nat → Bool} {n i : Nat} (hi : i < n) (hP : P i = true) (h : ∀ j, j < i → P j = false) : ff P n = i := by
  induction n with
  | zero => omega
  | succ n ih =>
    simp only [ff]
    by_cases e : i < n
    · rw [ih e, if_pos e]
    · obtain rfl : i = n := by omega
      rw [ff_none h, if_neg (by omega), if_pos hP]
theorem ff_lt {P : Nat → Bool} {n i : Nat} (hi : i < n) (hP : P i = true) : ff P n < n := by
  induction n with
  | zero => omega
  | succ n ih =>
    simp only [ff]
    by_cases e : i < n
    · have := ih e; rw [if_pos this]; omega
    · obtain rfl : i = n := by omega
      rw [if_pos hP]
      split <;> omega
theorem ff_at {P : Nat → Bool} {n : Nat} (h : ff P n < n) : P (ff P n) = true := by
  induction n with
  | zero => omega
  | succ n ih =>
    simp only [ff] at h ⊢
    by_cases e : ff P n < n
    · rw [if_pos e]; exact ih e
    · rw [if_neg e] at h ⊢
      by_cases e' : P n = true
      · rw [if_pos e']; exact e'
      · rw [if_neg e'] at h; omega
theorem ff_min {P : Nat → Bool} {n : Nat} (h : ff P n < n) (h2 : ff P (ff P n) < ff P n) : False := by
  have e := ff_at h2
  have hlt : ff P (ff P n) < n := by omega
  have h3 : ∀ m, ff P m ≤ m ∧ (∀ i, i < ff P m → P i = false) := by
    intro m
    induction m with
    | zero => exact ⟨Nat.le_refl _, fun i hi => by simp only [ff] at hi; omega⟩
    | succ m ih =>
      obtain ⟨i1, i2⟩ := ih
      simp only [ff]
      by_cases a : ff P m < m
      · rw [if_pos a]; exact ⟨by omega, i2⟩
      · rw [if_neg a]
        have em : ff P m = m := by omega
        rw [em] at i2
        by_cases b : P m = true
        · rw [if_pos b]; exact ⟨by omega, i2⟩
        · rw [if_neg b]
          refine ⟨Nat.le_refl _, fun i hi => ?_⟩
          by_cases c : i = m
          · rw [c]; simpa using b
          · exact i2 i (by omega)
  have := (h3 n).2 _ h2
  rw [e] at this; cases this
/-- whether a row has a place with P -/
def row2 (P : Nat → Nat → Bool) (n i : Nat) : Bool := decide (ff (P i) n < n)
theorem row2_no {P : Nat → Nat → Bool} {n i : Nat} (h : ∀ k, k < n → P i k = false) : row2 P n i = false := by
  unfold row2; rw [ff_none h]; simp
theorem row2_yes {P : Nat → Nat → Bool} {n i k : Nat} (hk : k < n) (h : P i k = true) : row2 P n i = true := by
  unfold row2; exact decide_eq_true (ff_lt hk h)
theorem hit2 {P : Nat → Nat → Bool} {n i k : Nat} (hi : i < n) (hk : k < n) (hP : P i k = true) (h1 : ∀ k', k' < k → P i k' = false) (h0 : ∀ i', i' < i → ∀ k', k' < n → P i' k' = false) : ff (row2 P n) n = i ∧ ff (P i) n = k :=
  ⟨ff_hit hi (row2_yes hk hP) fun j hj => row2_no (h0 j hj), ff_hit hk hP h1⟩
theorem none2 {P : Nat → Nat → Bool} {n : Nat} (h : ∀ i, i < n → ∀ k, k < n → P i k = false) : ff (row2 P n) n = n := ff_none fun i hi => row2_no (h i hi)
/-- the first fault of the unit -/
def ub (f : Nat → Nat → Nat → Int) (i k : Nat) : Bool := (f 0 i k != if i = k then 1 else 0) || (f i 0 k != if i = k then 1 else 0)
def fltU (n : Nat) (f : Nat → Nat → Nat → Int) : List Int :=
  if ff (row2 (ub f) n) n < n then [0, (ff (row2 (ub f) n) n : Nat), (ff (ub f (ff (row2 (ub f) n) n)) n : Nat)] else []
theorem fltU_hit {n i k : Nat} {f : Nat → Nat → Nat → Int} (hi : i < n) (hk : k < n) (hP : ub f i k = true) (h1 : ∀ k', k' < k → ub f i k' = false) (h0 : ∀ i', i' < i → ∀ k', k' < n → ub f i' k' = false) : fltU n f = [0, ((i : Nat) : Int), ((k : Nat) : Int)] := by
  obtain ⟨e1, e2⟩ := hit2 hi hk hP h1 h0
  unfold fltU; rw [e1, e2, if_pos hi]
theorem fltU_none {n : Nat} {f : Nat → Nat → Nat → Int} (h : ∀ i, i < n → ∀ k, k < n → ub f i k = false) : fltU n f = [] := by
  unfold fltU; rw [none2 h, if_neg (by omega)]
/-- j is the only label with a number, and it is 1 -/
def IsDual (n : Nat) (f : Nat → Nat → Nat → Int) (i j : Nat) : Prop := f i j 0 = 1 ∧ ∀ k, k < n → k ≠ j → f i k 0 = 0
instance (n : Nat) (f : Nat → Nat → Nat → Int) (i j : Nat) : Decidable (IsDual n f i j) := inferInstanceAs (Decidable (_ ∧ _))
def dualOf (n : Nat) (f : Nat → Nat → Nat → Int) (i : Nat) : Int := if ff (fun j => decide (IsDual n f i j)) n < n then (ff (fun j => decide (IsDual n f i j)) n : Nat) else -1
theorem dual_eq {n : Nat} {f : Nat → Nat → Nat → Int} {i j : Nat} (hj : j < n) (h : IsDual n f i j) : dualOf n f i = (j : Nat) := by
  have e : ff (fun j => decide (IsDual n f i j)) n = j := ff_hit hj (decide_eq_true h) fun j' hj' => decide_eq_false fun h' => by
    have := h.2 j' (by omega) (by omega)
    have := h'.1
    omega
  unfold dualOf; rw [e, if_pos hj]
theorem dual_neg {n : Nat} {f : Nat → Nat → Nat → Int} {i : Nat} (h : ∀ j, j < n → ¬ IsDual n f i j) : dualOf n f i = -1 := by
  unfold dualOf; rw [ff_none fun j hj => decide_eq_false (h j hj), if_neg (by omega)]
/-- a number other than 0 and 1, or two that are not 0 -/
theorem dual_bad {n : Nat} {f : Nat → Nat → Nat → Int} {i j : Nat} (hj : j < n) (h0 : f i j 0 ≠ 0) (h : f i j 0 ≠ 1 ∨ ∃ k, k < n ∧ k ≠ j ∧ f i k 0 ≠ 0) : dualOf n f i = -1 := by
  refine dual_neg fun k hk hd => ?_
  by_cases e : j = k
  · subst e
    rcases h with h | ⟨k, hk, hne, h⟩
    · exact h hd.1
    · exact h (hd.2 k hk hne)
  · exact h0 (hd.2 j hj e)
theorem dual_zero {n : Nat} {f : Nat → Nat → Nat → Int} {i : Nat} (h : ∀ j, j < n → f i j 0 = 0) : dualOf n f i = -1 :=
  dual_neg fun j hj hd => by have := h j hj; have := hd.1; omega
theorem dual_range (n : Nat) (f : Nat → Nat → Nat → Int) (i : Nat) : -1 ≤ dualOf n f i ∧ dualOf n f i < n := by
  unfold dualOf; split <;> omega
theorem dual_is {n : Nat} {f : Nat → Nat → Nat → Int} {i : Nat} (h : 0 ≤ dualOf n f i) : (dualOf n f i).toNat < n ∧ IsDual n f i (dualOf n f i).toNat := by
  unfold dualOf at *
  split at h
  · rename_i e
    have := ff_at e
    rw [if_pos e]
    exact ⟨by simpa using e, by simpa using this⟩
  · omega
/-- the dual as an index -/
def dn (n : Nat) (f : Nat → Nat → Nat → Int) (i : Nat) : Nat := (dualOf n f i).toNat
def db (n : Nat) (f : Nat → Nat → Nat → Int) (i : Nat) : Bool := decide (dualOf n f i < 0) || (dualOf n f (dn n f i) != i)
def fltD (n : Nat) (f : Nat → Nat → Nat → Int) : List Int := if ff (db n f) n < n then [1, (ff (db n f) n : Nat)] else []
theorem fltD_hit {n i : Nat} {f : Nat → Nat → Nat → Int} (hi : i < n) (hP : db n f i = true) (h : ∀ j, j < i → db n f j = false) : fltD n f = [1, ((i : Nat) : Int)] := by
  unfold fltD; rw [ff_hit hi hP h, if_pos hi]
theorem fltD_none {n : Nat} {f : Nat → Nat → Nat → Int} (h : ∀ j, j < n → db n f j = false) : fltD n f = [] := by
  unfold fltD; rw [ff_none h, if_neg (by omega)]
/-- the first fault of turning -/
def tb (n : Nat) (f : Nat → Nat → Nat → Int) (i j k : Nat) : Bool := (f i j k != f (dn n f i) k j) || (f i j k != f k (dn n f j) i)
def fltT (n : Nat) (f : Nat → Nat → Nat → Int) : List Int :=
  let i := ff (row2 (fun i => row2 (tb n f i) n) n) n
  let j := ff (row2 (tb n f i) n) n
  if i < n then [2, (i : Nat), (j : Nat), (ff (tb n f i j) n : Nat)] else []
theorem fltT_hit {n i j k : Nat} {f : Nat → Nat → Nat → Int} (hi : i < n) (hj : j < n) (hk : k < n) (hP : tb n f i j k = true) (h2 : ∀ k', k' < k → tb n f i j k' = false) (h1 : ∀ j', j' < j → ∀ k', k' < n → tb n f i j' k' = false)
    (h0 : ∀ i', i' < i → ∀ j', j' < n → ∀ k', k' < n → tb n f i' j' k' = false) : fltT n f = [2, ((i : Nat) : Int), ((j : Nat) : Int), ((k : Nat) : Int)] := by
  obtain ⟨e1, e2⟩ := hit2 (P := fun i => row2 (tb n f i) n) hi hj (row2_yes hk hP) (fun j' hj' => row2_no (h1 j' hj')) (fun i' hi' j' hj' => row2_no (h0 i' hi' j' hj'))
  have e3 := ff_hit hk hP h2
  simp only [fltT, e1, e2, e3, if_pos hi]
theorem fltT_none {n : Nat} {f : Nat → Nat → Nat → Int} (h : ∀ i, i < n → ∀ j, j < n → ∀ k, k < n → tb n f i j k = false) : fltT n f = [] := by
  have e := none2 (P := fun i => row2 (tb n f i) n) (n := n) (fun i hi j hj => row2_no (h i hi j hj))
  simp only [fltT, e, if_neg (Nat.lt_irrefl n)]
/-- a sum -/
def sumZ (g : Nat → Int) : Nat → Int
  | 0 => 0
  | n + 1 => sumZ g n + g n
theorem sumZ_congr {g h : Nat → Int} {n : Nat} (e : ∀ i, i < n → g i = h i) : sumZ g n = sumZ h n := by
  induction n with
  | zero => rfl
  | succ n ih => simp only [sumZ]; rw [ih (fun i hi => e i (by omega)), e n (by omega)]
theorem sumZ_bd {g : Nat → Int} {n : Nat} {B : Int} (h : ∀ i, i < n → 0 ≤ g i ∧ g i ≤ B) : 0 ≤ sumZ g n ∧ sumZ g n ≤ n * B := by
  induction n with
  | zero => simp [sumZ]
  | succ n ih =>
    obtain ⟨a, b⟩ := ih (fun i hi => h i (by omega))
    obtain ⟨c, d⟩ := h n (by omega)
    simp only [sumZ]
    have : ((n + 1 : Nat) : Int) * B = n * B + B := by rw [Int.natCast_add, Int.add_mul]; simp
    omega
def s1 (n : Nat) (f : Nat → Nat → Nat → Int) (i j k l : Nat) : Int := sumZ (fun m => f i j m * f m k l) n
def s2 (n : Nat) (f : Nat → Nat → Nat → Int) (i j k l : Nat) : Int := sumZ (fun m => f j k m * f i m l) n
def sb (n : Nat) (f : Nat → Nat → Nat → Int) (i j k l : Nat) : Bool := s1 n f i j k l != s2 n f i j k l
def fltS (n : Nat) (f : Nat → Nat → Nat → Int) : List Int :=
  let i := ff (row2 (fun i => row2 (fun j => row2 (sb n f i j) n) n) n) n
  let j := ff (row2 (fun j => row2 (sb n f i j) n) n) n
  let k := ff (row2 (sb n f i j) n) n
  if i < n then [3, (i : Nat), (j : Nat), (k : Nat), (ff (sb n f i j k) n : Nat)] else []
theorem fltS_hit {n i j k l : Nat} {f : Nat → Nat → Nat → Int} (hi : i < n) (hj : j < n) (hk : k < n) (hl : l < n) (hP : sb n f i j k l = true) (h3 : ∀ l', l' < l → sb n f i j k l' = false) (h2 : ∀ k', k' < k → ∀ l', l' < n → sb n f i j k' l' = false)
    (h1 : ∀ j', j' < j → ∀ k', k' < n → ∀ l', l' < n → sb n f i j' k' l' = false) (h0 : ∀ i', i' < i → ∀ j', j' < n → ∀ k', k' < n → ∀ l', l' < n → sb n f i' j' k' l' = false) : fltS n f = [3, ((i : Nat) : Int), ((j : Nat) : Int), ((k : Nat) : Int), ((l : Nat) : Int)] := by
  have hk' : row2 (sb n f i j) n k = true := row2_yes hl hP
  obtain ⟨e1, e2⟩ := hit2 (P := fun i => row2 (fun j => row2 (sb n f i j) n) n) hi hj (row2_yes (P := fun j => row2 (sb n f i j) n) hk hk') (fun j' hj' => row2_no (fun k' hk' => row2_no (h1 j' hj' k' hk'))) (fun i' hi' j' hj' => row2_no (fun k' hk' => row2_no (h0 i' hi' j' hj' k' hk')))
  have e3 : ff (row2 (sb n f i j) n) n = k := ff_hit hk hk' (fun k' hk' => row2_no (h2 k' hk'))
  have e4 := ff_hit hl hP h3
  simp only [fltS, e1, e2, e3, e4, if_pos hi]
theorem fltS_none {n : Nat} {f : Nat → Nat → Nat → Int} (h : ∀ i, i < n → ∀ j, j < n → ∀ k, k < n → ∀ l, l < n → sb n f i j k l = false) : fltS n f = [] := by
  have e := none2 (P := fun i => row2 (fun j => row2 (sb n f i j) n) n) (n := n) (fun i hi j hj => row2_no (fun k hk => row2_no (h i hi j hj k hk)))
  simp only [fltS, e, if_neg (Nat.lt_irrefl n)]
/-- the first fault -/
def flt (n : Nat) (f : Nat → Nat → Nat → Int) : List Int :=
  if fltU n f = [] then (if fltD n f = [] then (if fltT n f = [] then fltS n f else fltT n f) else fltD n f) else fltU n f
theorem flt_len (n : Nat) (f : Nat → Nat → Nat → Int) : (flt n f).length ≤ 5 := by
  have h1 : (fltU n f).length ≤ 3 := by unfold fltU; split <;> simp
  have h2 : (fltD n f).length ≤ 2 := by unfold fltD; split <;> simp
  have h3 : (fltT n f).length ≤ 4 := by simp only [fltT]; split <;> simp
  have h4 : (fltS n f).length ≤ 5 := by simp only [fltS]; split <;> simp
  unfold flt
  split
  · split
    · split <;> omega
    · omega
  · omega
/-- what is a cube -/
def cubB (n : Nat) (M : Nat → Nat) (L : Nat → Nat → Nat) (f : Nat → Nat → Nat → Int) : Bool := decide (1 ≤ n ∧ n ≤ 16 ∧ ∀ i, i < n → M i = n ∧ ∀ j, j < n → L i j = n ∧ ∀ k, k < n → 0 ≤ f i j k ∧ f i j k ≤ 1000)
theorem cubB_t {n : Nat} {M : Nat → Nat} {L : Nat → Nat → Nat} {f : Nat → Nat → Nat → Int} (h : cubB n M L f = true) : 1 ≤ n ∧ n ≤ 16 ∧ ∀ i, i < n → M i = n ∧ ∀ j, j < n → L i j = n ∧ ∀ k, k < n → 0 ≤ f i j k ∧ f i j k ≤ 1000 := of_decide_eq_true h
theorem cubB_mk {n : Nat} {M : Nat → Nat} {L : Nat → Nat → Nat} {f : Nat → Nat → Nat → Int} (h1 : 1 ≤ n) (h2 : n ≤ 16) (h : ∀ i, i < n → M i = n ∧ ∀ j, j < n → L i j = n ∧ ∀ k, k < n → 0 ≤ f i j k ∧ f i j k ≤ 1000) : cubB n M L f = true := decide_eq_true ⟨h1, h2, h⟩
theorem cubB_size {n : Nat} {M : Nat → Nat} {L : Nat → Nat → Nat} {f : Nat → Nat → Nat → Int} (h : n < 1 ∨ 16 < n) : cubB n M L f = false := decide_eq_false fun ⟨a, b, _⟩ => by omega
theorem cubB_row {n : Nat} {M : Nat → Nat} {L : Nat → Nat → Nat} {f : Nat → Nat → Nat → Int} {i : Nat} (hi : i < n) (h : M i ≠ n) : cubB n M L f = false := decide_eq_false fun ⟨_, _, c⟩ => h (c i hi).1
/-- a list of n numbers up to b -/
def inZ (b : Int) (f : Nat → Int) (n : Nat) : Bool := decide (∀ k, k < n → 0 ≤ f k ∧ f k ≤ b)
theorem inZ_t {b : Int} {f : Nat → Int} {n : Nat} (h : inZ b f n = true) : ∀ k, k < n → 0 ≤ f k ∧ f k ≤ b := of_decide_eq_true h
theorem inZ_mk {b : Int} {f : Nat → Int} {n : Nat} (h : ∀ k, k < n → 0 ≤ f k ∧ f k ≤ b) : inZ b f n = true := decide_eq_true h
theorem inZ_no {b : Int} {f : Nat → Int} {n k : Nat} (hk : k < n) (h : ¬ (0 ≤ f k ∧ f k ≤ b)) : inZ b f n = false := decide_eq_false fun c => h (c k hk)
theorem cubB_list {n : Nat} {M : Nat → Nat} {L : Nat → Nat → Nat} {f : Nat → Nat → Nat → Int} {i j : Nat} (hi : i < n) (hj : j < n) (h : L i j ≠ n ∨ inZ 1000 (f i j) n = false) : cubB n M L f = false := decide_eq_false fun ⟨_, _, c⟩ => by
  obtain ⟨c1, c2⟩ := (c i hi).2 j hj
  rcases h with h | h
  · exact h c1
  · rw [inZ_mk c2] at h; cases h
end Go.Proofs.Ytmdmojklagmmiaa
