/- Linear algebra modulo the prime: elimination, reduced bases, kernels, inverses. -/
import Derived.Test.YtmdmojklagmmiaaNt
namespace Go.Proofs.Ytmdmojklagmmiaa
set_option linter.unusedVariables false
abbrev K := Fin 55441
/-- the exponent of inverses -/
def invE : Nat := 55439
def invN (a : Nat) : Nat := a ^ invE % 55441
theorem invN_lt (a : Nat) : invN a < 55441 := by unfold invN; omega
theorem invN_mul (a : Nat) (h : a % 55441 ≠ 0) : a * invN a % 55441 = 1 := by
  have h2 : ∀ e : Nat, e = 55439 → a * (a ^ e % 55441) % 55441 = 1 := fun e he => by rw [he]; exact NT.inv_mul a h
  unfold invN; exact h2 invE rfl
def kInv (x : K) : K := ⟨invN x.val, invN_lt _⟩
abbrev Mat := Nat → Nat → K
def sumK : Nat → (Nat → K) → K
  | 0, _ => 0
  | n + 1, g => sumK n g + g n
theorem sumK_congr {n : Nat} {f g : Nat → K} (h : ∀ i, i < n → f i = g i) : sumK n f = sumK n g := by
  induction n with
  | zero => rfl
  | succ n ih => simp only [sumK]; rw [ih (fun i hi => h i (by omega)), h n (by omega)]
theorem sumK_add (n : Nat) (f g : Nat → K) : sumK n (fun i => f i + g i) = sumK n f + sumK n g := by
  induction n with
  | zero => simp [sumK]
  | succ n ih => simp only [sumK]; rw [ih]; grind
theorem sumK_mul (n : Nat) (c : K) (f : Nat → K) : sumK n (fun i => c * f i) = c * sumK n f := by
  induction n with
  | zero => simp only [sumK]; grind
  | succ n ih => simp only [sumK]; rw [ih]; grind
theorem sumK_zero (n : Nat) : sumK n (fun _ => 0) = 0 := by
  induction n with
  | zero => rfl
  | succ n ih => simp only [sumK]; rw [ih]; rfl
theorem sumK_comm (n m : Nat) (f : Nat → Nat → K) : sumK n (fun i => sumK m (fun j => f i j)) = sumK m (fun j => sumK n (fun i => f i j)) := by
  induction n with
  | zero => simp only [sumK]; rw [sumK_zero]
  | succ n ih => simp only [sumK]; rw [ih, ← sumK_add]
def vK (x : K) : Int := (x.val : Int)
theorem vK_bd (x : K) : 0 ≤ vK x ∧ vK x < 55441 := by unfold vK; have := x.isLt; omega
theorem vK_add (x y : K) : (vK x + vK y) % 55441 = vK (x + y) := by unfold vK; rw [Fin.val_add]; omega
theorem vK_mul (x y : K) : (vK x * vK y) % 55441 = vK (x * y) := by unfold vK; rw [Fin.val_mul, ← Int.natCast_mul]; omega
theorem vK_sub (x y : K) : (vK x - vK y) % 55441 = vK (x - y) := by
  unfold vK; have := Fin.val_sub x y
  have h1 := x.isLt; have h2 := y.isLt
  rw [this]; omega
theorem vK_neg (x : K) : (- vK x) % 55441 = vK (-x) := by
  have := vK_sub 0 x
  have e : (0 : K) - x = -x := by grind
  rw [e] at this
  rw [← this]; show -vK x % 55441 = (0 - vK x) % 55441; rw [Int.zero_sub]
theorem vK_zero : vK 0 = 0 := rfl
theorem vK_one : vK 1 = 1 := rfl
theorem vK_inj {x y : K} (h : vK x = vK y) : x = y := by unfold vK at h; exact Fin.ext (by omega)
theorem vK_ne {x : K} (h : x ≠ 0) : vK x ≠ 0 := fun e => h (vK_inj e)
def kOf (a : Int) : K := ⟨(a % 55441).toNat, by omega⟩
theorem vK_kOf (a : Int) (h0 : 0 ≤ a) (h1 : a < 55441) : vK (kOf a) = a := by unfold vK kOf; simp; omega
theorem kInv_mul {x : K} (h : x ≠ 0) : x * kInv x = 1 := by
  apply Fin.ext
  rw [Fin.val_mul]
  have hx : x.val % 55441 ≠ 0 := by
    intro e; apply h; apply Fin.ext; have := x.isLt; show x.val = 0; omega
  have e := invN_mul x.val hx
  have e1 : (kInv x).val = invN x.val := by unfold kInv; rfl
  have e2 : (1 : K).val = 1 := rfl
  rw [e1, e2]
  exact e
/-- the first row from r on with a number other than 0 in a column, or n -/
def piv (F : Mat) (n k : Nat) (r : Nat) : Nat :=
  if h : r < n then (if F r k = 0 then piv F n k (r + 1) else r) else n
termination_by n - r
theorem piv_spec (F : Mat) (n k : Nat) : ∀ (d r : Nat), n - r = d → r ≤ n → (r ≤ piv F n k r ∧ piv F n k r ≤ n ∧ (∀ i, r ≤ i → i < piv F n k r → F i k = 0) ∧ (piv F n k r < n → F (piv F n k r) k ≠ 0)) := by
  intro d
  induction d with
  | zero =>
    intro r hd hr
    have : r = n := by omega
    subst this
    unfold piv
    simp
    intro i h1 h2; omega
  | succ d ih =>
    intro r hd hr
    have hlt : r < n := by omega
    unfold piv
    rw [dif_pos hlt]
    by_cases h0 : F r k = 0
    · rw [if_pos h0]
      obtain ⟨a, b, c, e⟩ := ih (r + 1) (by omega) (by omega)
      refine ⟨by omega, b, fun i h1 h2 => ?_, e⟩
      by_cases hi : i = r
      · rw [hi]; exact h0
      · exact c i (by omega) h2
    · rw [if_neg h0]
      exact ⟨Nat.le_refl _, by omega, fun i h1 h2 => by omega, fun _ => h0⟩
theorem piv_uniq {F : Mat} {n k r i : Nat} (h1 : r ≤ i) (h2 : i < n) (h3 : ∀ j, r ≤ j → j < i → F j k = 0) (h4 : F i k ≠ 0) : piv F n k r = i := by
  obtain ⟨a, b, c, e⟩ := piv_spec F n k (n - r) r rfl (by omega)
  rcases Nat.lt_trichotomy (piv F n k r) i with h | h | h
  · exact absurd (h3 _ a h) (e (by omega))
  · exact h
  · exact absurd (c i h1 h) h4
theorem piv_none {F : Mat} {n k r : Nat} (hr : r ≤ n) (h3 : ∀ j, r ≤ j → j < n → F j k = 0) : piv F n k r = n := by
  obtain ⟨a, b, c, e⟩ := piv_spec F n k (n - r) r rfl hr
  by_cases h : piv F n k r < n
  · exact absurd (h3 _ a h) (e h)
  · omega
/-- the row s is divided by its number in the column k, brought to r, and cleared elsewhere -/
def clr (F : Mat) (r s k : Nat) : Mat := fun i j =>
  if i = r then F s j * kInv (F s k) else (if i = s then F r j else F i j) - (if i = s then F r k else F i k) * (F s j * kInv (F s k))
/-- one column of the elimination: rows, how many are done, determinant so far -/
def gstep (n : Nat) (st : Mat × Nat × K) (k : Nat) : Mat × Nat × K :=
  let s := piv st.1 n k st.2.1
  if s < n then (clr st.1 st.2.1 s k, st.2.1 + 1, (if st.2.1 < s then -st.2.2 else st.2.2) * st.1 s k) else st
def gau (n : Nat) (F : Mat) : Nat → Mat × Nat × K
  | 0 => (F, 0, 1)
  | k + 1 => gstep n (gau n F k) k
theorem gau_yes {n k : Nat} {F : Mat} (h : piv (gau n F k).1 n k (gau n F k).2.1 < n) : gau n F (k + 1) = (clr (gau n F k).1 (gau n F k).2.1 (piv (gau n F k).1 n k (gau n F k).2.1) k, (gau n F k).2.1 + 1, (if (gau n F k).2.1 < piv (gau n F k).1 n k (gau n F k).2.1 then -(gau n F k).2.2 else (gau n F k).2.2) * (gau n F k).1 (piv (gau n F k).1 n k (gau n F k).2.1) k) := by
  show gstep n (gau n F k) k = _
  unfold gstep
  simp only [if_pos h]
theorem gau_no {n k : Nat} {F : Mat} (h : ¬ piv (gau n F k).1 n k (gau n F k).2.1 < n) : gau n F (k + 1) = gau n F k := by
  show gstep n (gau n F k) k = _
  unfold gstep
  simp only [if_neg h]
theorem gau_rank (n : Nat) (F : Mat) (k : Nat) : (gau n F k).2.1 ≤ k ∧ (gau n F k).2.1 ≤ n := by
  induction k with
  | zero => simp [gau]
  | succ k ih =>
    by_cases h : piv (gau n F k).1 n k (gau n F k).2.1 < n
    · have := piv_spec (gau n F k).1 n k _ (gau n F k).2.1 rfl ih.2
      rw [gau_yes h]
      simp only
      omega
    · rw [gau_no h]; omega
/-- one step of the elimination below alone -/
def elim (F : Mat) (k s : Nat) : Mat := fun i j =>
  if i = k then F s j else if k < i then (if i = s then F k j else F i j) + F s j * (-(if i = s then F k k else F i k) * kInv (F s k)) else F i j
def dstep (n : Nat) (st : Mat × K) (k : Nat) : Mat × K :=
  let s := piv st.1 n k k
  if s < n then (elim st.1 k s, (if k < s then -st.2 else st.2) * st.1 s k) else (st.1, 0)
/-- rows, determinant so far, whether all columns had a number other than 0 -/
def dto (n : Nat) (F : Mat) : Nat → Mat × K
  | 0 => (F, 1)
  | k + 1 => dstep n (dto n F k) k
def dok (n : Nat) (F : Mat) : Nat → Prop
  | 0 => True
  | k + 1 => dok n F k ∧ piv (dto n F k).1 n k k < n
theorem piv_congr {F G : Mat} {n k r : Nat} (hr : r ≤ n) (h : ∀ i, r ≤ i → F i k = G i k) : piv F n k r = piv G n k r := by
  obtain ⟨a, b, c, e⟩ := piv_spec F n k (n - r) r rfl hr
  by_cases hl : piv F n k r < n
  · exact (piv_uniq a hl (fun j h1 h2 => by rw [← h j h1]; exact c j h1 h2) (by rw [← h _ a]; exact e hl)).symm
  · have : piv F n k r = n := by omega
    rw [this]
    exact (piv_none hr (fun j h1 h2 => by rw [← h j h1]; exact c j h1 (by omega))).symm
/-- while all columns have a number, both eliminations agree on the rows below and on the number -/
theorem det_agree (n : Nat) (F : Mat) (k : Nat) (hk : k ≤ n) (h : dok n F k) : (gau n F k).2.1 = k ∧ (gau n F k).2.2 = (dto n F k).2 ∧ ∀ i j, k ≤ i → (gau n F k).1 i j = (dto n F k).1 i j := by
  induction k with
  | zero => exact ⟨rfl, rfl, fun _ _ _ => rfl⟩
  | succ k ih =>
    obtain ⟨hd, hp⟩ := h
    obtain ⟨e1, e2, e3⟩ := ih (by omega) hd
    have ep : piv (gau n F k).1 n k k = piv (dto n F k).1 n k k := piv_congr (by omega) (fun i hi => e3 i k hi)
    have ha := (piv_spec (dto n F k).1 n k (n - k) k rfl (by omega)).1
    rw [gau_yes (by rw [e1, ep]; exact hp)]
    unfold dto dstep
    simp only [e1, ep, if_pos hp, e2]
    refine ⟨trivial, by rw [e3 _ _ ha], fun i j hi => ?_⟩
    have hi1 : ¬ i = k := by omega
    have hi2 : k < i := by omega
    simp only [clr, elim, if_neg hi1, if_pos hi2]
    rw [e3 _ j ha, e3 _ k ha, e3 k j (Nat.le_refl _), e3 k k (Nat.le_refl _), e3 i j (by omega), e3 i k (by omega)]
    grind
theorem gau_short (n : Nat) (F : Mat) (k : Nat) (hk : k < n) (h : dok n F k) (hn : ¬ piv (dto n F k).1 n k k < n) : ∀ m, k + 1 ≤ m → (gau n F m).2.1 < m := by
  intro m hm
  induction m with
  | zero => omega
  | succ m ih =>
    by_cases e : m = k
    · subst e
      obtain ⟨e1, e2, e3⟩ := det_agree n F m (by omega) h
      have ep : piv (gau n F m).1 n m m = piv (dto n F m).1 n m m := piv_congr (by omega) (fun i hi => e3 i m hi)
      rw [gau_no (by rw [e1, ep]; exact hn)]
      omega
    · have := ih (by omega)
      by_cases h : piv (gau n F m).1 n m (gau n F m).2.1 < n
      · rw [gau_yes h]; simp only; omega
      · rw [gau_no h]; omega
/-- the determinant -/
def detK (n : Nat) (F : Mat) : K := if (gau n F n).2.1 < n then 0 else (gau n F n).2.2
theorem det_full (n : Nat) (F : Mat) (h : dok n F n) : detK n F = (dto n F n).2 := by
  obtain ⟨e1, e2, _⟩ := det_agree n F n (Nat.le_refl _) h
  unfold detK
  rw [e1, if_neg (by omega), e2]
theorem det_none (n : Nat) (F : Mat) (k : Nat) (hk : k < n) (h : dok n F k) (hn : ¬ piv (dto n F k).1 n k k < n) : detK n F = 0 := by
  unfold detK
  rw [if_pos (gau_short n F k hk h hn n (by omega))]
theorem sumK_one (n k : Nat) (hk : k < n) (f : Nat → K) (h : ∀ i, i < n → i ≠ k → f i = 0) : sumK n f = f k := by
  induction n with
  | zero => omega
  | succ n ih =>
    simp only [sumK]
    by_cases e : k = n
    · subst e
      rw [show sumK k f = 0 from ?_]
      · grind
      · rw [sumK_congr (g := fun _ => 0) (fun i hi => h i (by omega) (by omega)), sumK_zero]
    · rw [ih (by omega) (fun i hi hne => h i (by omega) hne), h n (by omega) (fun e' => e e'.symm)]
      grind
/-- v is a sum of multiples of the first r rows of B, at the first m places -/
def InSpan (r m : Nat) (B : Mat) (v : Nat → K) : Prop := ∃ c : Nat → K, ∀ j, j < m → v j = sumK r (fun i => c i * B i j)
/-- the first r rows of B are a reduced basis, p the places of their ones -/
structure IsRed (r m : Nat) (B : Mat) (p : Nat → Nat) : Prop where
  lt : ∀ i, i < r → p i < m
  inc : ∀ i j, i < j → j < r → p i < p j
  one : ∀ i, i < r → B i (p i) = 1
  before : ∀ i j, i < r → j < p i → B i j = 0
  other : ∀ i k, i < r → k < r → i ≠ k → B k (p i) = 0
theorem IsRed.coef {r m : Nat} {B : Mat} {p : Nat → Nat} (h : IsRed r m B p) {v c : Nat → K} (hv : ∀ j, j < m → v j = sumK r (fun i => c i * B i j)) (k : Nat) (hk : k < r) : c k = v (p k) := by
  rw [hv _ (h.lt k hk), sumK_one r k hk _ (fun i hi hne => by rw [h.other k i hk hi (fun e => hne e.symm)]; grind), h.one k hk]
  grind
theorem IsRed.span {r m : Nat} {B : Mat} {p : Nat → Nat} (h : IsRed r m B p) {v : Nat → K} (hv : InSpan r m B v) : ∀ j, j < m → v j = sumK r (fun i => v (p i) * B i j) := by
  obtain ⟨c, hc⟩ := hv
  intro j hj
  rw [hc j hj]
  exact sumK_congr fun i hi => by rw [h.coef hc i hi]
/-- the first place of a vector of the span that is not 0 is one of the p -/
theorem IsRed.lead {r m : Nat} {B : Mat} {p : Nat → Nat} (h : IsRed r m B p) {v : Nat → K} (hv : InSpan r m B v) {k : Nat} (hk : k < m) (hne : v k ≠ 0) (h0 : ∀ j, j < k → v j = 0) : ∃ i, i < r ∧ p i = k := by
  by_cases hex : ∃ i, i < r ∧ p i = k
  · exact hex
  · exfalso
    apply hne
    rw [h.span hv k hk, sumK_congr (g := fun _ => 0), sumK_zero]
    intro i hi
    by_cases hp : p i < k
    · rw [h0 _ hp]; grind
    · have : p i ≠ k := fun e => hex ⟨i, hi, e⟩
      rw [h.before i k hi (by omega)]; grind
theorem InSpan.row {r m : Nat} {B : Mat} {i : Nat} (hi : i < r) : InSpan r m B (B i) :=
  ⟨fun k => if k = i then 1 else 0, fun j _ => by
    rw [sumK_one r i hi _ (fun k _ hne => by simp only [if_neg hne]; grind)]; simp only [if_pos]; grind⟩
theorem InSpan.trans {r s m : Nat} {B C : Mat} {v : Nat → K} (hv : InSpan r m B v) (h : ∀ i, i < r → InSpan s m C (B i)) : InSpan s m C v := by
  obtain ⟨c, hc⟩ := hv
  have : ∃ d : Nat → Nat → K, ∀ i, i < r → ∀ j, j < m → B i j = sumK s (fun k => d i k * C k j) := by
    refine ⟨fun i => if hi : i < r then (h i hi).choose else fun _ => 0, fun i hi j hj => ?_⟩
    simp only [dif_pos hi]
    exact (h i hi).choose_spec j hj
  obtain ⟨d, hd⟩ := this
  refine ⟨fun k => sumK r (fun i => c i * d i k), fun j hj => ?_⟩
  rw [hc j hj, sumK_congr (g := fun i => sumK s (fun k => c i * (d i k * C k j))) (fun i hi => by rw [hd i hi j hj, sumK_mul])]
  rw [sumK_comm]
  refine sumK_congr fun k _ => ?_
  have := sumK_mul r (C k j) (fun i => c i * d i k)
  rw [show sumK r (fun i => c i * d i k) * C k j = C k j * sumK r (fun i => c i * d i k) by grind, ← this]
  exact sumK_congr fun i _ => by grind
/-- the increasing lists of the same places are the same -/
theorem inc_le {r s : Nat} {p q : Nat → Nat} (hp : ∀ i j, i < j → j < r → p i < p j) (hq : ∀ i j, i < j → j < s → q i < q j) (h : ∀ i, i < r → ∃ j, j < s ∧ q j = p i) : r ≤ s ∧ ∀ i, i < r → q i ≤ p i := by
  have key : ∀ i, i < r → ∃ j, i ≤ j ∧ j < s ∧ q j = p i := by
    intro i
    induction i with
    | zero => intro hi; obtain ⟨j, a, b⟩ := h 0 hi; exact ⟨j, by omega, a, b⟩
    | succ i ih =>
      intro hi
      obtain ⟨j, a, b, c⟩ := ih (by omega)
      obtain ⟨j', a', b'⟩ := h (i + 1) hi
      have h1 := hp i (i + 1) (by omega) hi
      have : j < j' := by
        rcases Nat.lt_trichotomy j j' with x | x | x
        · exact x
        · subst x; omega
        · have := hq j' j x b; omega
      exact ⟨j', by omega, a', b'⟩
  constructor
  · by_cases h0 : r = 0
    · omega
    · obtain ⟨j, a, b, _⟩ := key (r - 1) (by omega); omega
  · intro i hi
    obtain ⟨j, a, b, c⟩ := key i hi
    by_cases e : i = j
    · subst e; omega
    · have := hq i j (by omega) b; omega
theorem red_unique {r s m : Nat} {B C : Mat} {p q : Nat → Nat} (hB : IsRed r m B p) (hC : IsRed s m C q) (h1 : ∀ i, i < r → InSpan s m C (B i)) (h2 : ∀ i, i < s → InSpan r m B (C i)) :
    r = s ∧ ∀ i, i < r → ∀ j, j < m → B i j = C i j := by
  have e1 : ∀ i, i < r → ∃ j, j < s ∧ q j = p i := fun i hi =>
    hC.lead (h1 i hi) (hB.lt i hi) (by rw [hB.one i hi]; decide) (fun j hj => hB.before i j hi hj)
  have e2 : ∀ i, i < s → ∃ j, j < r ∧ p j = q i := fun i hi =>
    hB.lead (h2 i hi) (hC.lt i hi) (by rw [hC.one i hi]; decide) (fun j hj => hC.before i j hi hj)
  obtain ⟨a1, a2⟩ := inc_le hB.inc hC.inc e1
  obtain ⟨b1, b2⟩ := inc_le hC.inc hB.inc e2
  have hrs : r = s := by omega
  subst hrs
  have hpq : ∀ i, i < r → p i = q i := fun i hi => by have := a2 i hi; have := b2 i hi; omega
  refine ⟨rfl, fun i hi j hj => ?_⟩
  rw [hC.span (h1 i hi) j hj, sumK_one r i hi _ (fun k hk hne => by rw [← hpq k hk, hB.other k i hk hi hne]; grind), ← hpq i hi, hB.one i hi]
  grind

theorem InSpan.ext {r m : Nat} {B : Mat} {u v : Nat → K} (hv : InSpan r m B v) (h : ∀ j, j < m → u j = v j) : InSpan r m B u := by
  obtain ⟨c, hc⟩ := hv
  exact ⟨c, fun j hj => by rw [h j hj, hc j hj]⟩
theorem InSpan.lin {r m : Nat} {B : Mat} {u v : Nat → K} (hu : InSpan r m B u) (hv : InSpan r m B v) (c : K) : InSpan r m B (fun j => u j + c * v j) := by
  obtain ⟨a, ha⟩ := hu
  obtain ⟨b, hb⟩ := hv
  refine ⟨fun i => a i + c * b i, fun j hj => ?_⟩
  show u j + c * v j = _
  rw [ha j hj, hb j hj, ← sumK_mul, ← sumK_add]
  exact sumK_congr fun i _ => by grind
theorem InSpan.mul {r m : Nat} {B : Mat} {v : Nat → K} (hv : InSpan r m B v) (c : K) : InSpan r m B (fun j => c * v j) := by
  obtain ⟨b, hb⟩ := hv
  refine ⟨fun i => c * b i, fun j hj => ?_⟩
  show c * v j = _
  rw [hb j hj, ← sumK_mul]
  exact sumK_congr fun i _ => by grind
/-- what holds after the first k columns -/
structure GInv (n m : Nat) (F : Mat) (k : Nat) (G : Mat) (r : Nat) (p : Nat → Nat) : Prop where
  rn : r ≤ n
  red : IsRed r k G p
  rest : ∀ i j, r ≤ i → i < n → j < k → G i j = 0
  to : ∀ i, i < n → InSpan n m F (G i)
  from' : ∀ i, i < n → InSpan n m G (F i)
theorem ginv_zero (n m : Nat) (F : Mat) : GInv n m F 0 F 0 (fun _ => 0) :=
  ⟨by omega, ⟨by omega, by omega, by omega, by omega, by omega⟩, by omega, fun i hi => InSpan.row hi, fun i hi => InSpan.row hi⟩
theorem ginv_no {n m : Nat} {F G : Mat} {k r : Nat} {p : Nat → Nat} (h : GInv n m F k G r p) (hp : ¬ piv G n k r < n) : GInv n m F (k + 1) G r p := by
  have hs := piv_spec G n k (n - r) r rfl h.rn
  refine ⟨h.rn, ⟨fun i hi => by have := h.red.lt i hi; omega, h.red.inc, h.red.one, h.red.before, h.red.other⟩, fun i j hi hn hj => ?_, h.to, h.from'⟩
  by_cases e : j = k
  · subst e; exact hs.2.2.1 i hi (by omega)
  · exact h.rest i j hi hn (by omega)
theorem ginv_yes {n m : Nat} {F G : Mat} {k r s : Nat} {p : Nat → Nat} (h : GInv n m F k G r p) (hrs : r ≤ s) (hsn : s < n) (hne : G s k ≠ 0) :
    GInv n m F (k + 1) (clr G r s k) (r + 1) (fun i => if i = r then k else p i) := by
  have hi1 := kInv_mul hne
  have hs0 : ∀ j, j < k → G s j = 0 := fun j hj => h.rest s j hrs hsn hj
  have hr0 : ∀ j, j < k → G r j = 0 := fun j hj => h.rest r j (Nat.le_refl _) (by omega) hj
  have row : ∀ j, clr G r s k r j = G s j * kInv (G s k) := fun j => by simp [clr]
  have low : ∀ i j, i < r → clr G r s k i j = G i j - G i k * (G s j * kInv (G s k)) := fun i j hi => by
    simp only [clr, if_neg (show ¬ i = r by omega), if_neg (show ¬ i = s by omega)]
  have up : ∀ i, ¬ i = r → r ≤ i → i < n → ∃ t, r ≤ t ∧ t < n ∧ ∀ j, clr G r s k i j = G t j - G t k * (G s j * kInv (G s k)) := fun i hne hi hin => by
    by_cases e : i = s
    · exact ⟨r, Nat.le_refl _, by omega, fun j => by simp only [clr, if_neg hne, if_pos e]⟩
    · exact ⟨i, hi, hin, fun j => by simp only [clr, if_neg hne, if_neg e]⟩
  refine ⟨by omega, ⟨?_, ?_, ?_, ?_, ?_⟩, ?_, ?_, ?_⟩
  · intro i hi
    by_cases e : i = r
    · simp only [if_pos e]; omega
    · simp only [if_neg e]; have := h.red.lt i (by omega); omega
  · intro i j hij hj
    simp only [if_neg (show ¬ i = r by omega)]
    by_cases e : j = r
    · simp only [if_pos e]; exact h.red.lt i (by omega)
    · simp only [if_neg e]; exact h.red.inc i j hij (by omega)
  · intro i hi
    by_cases e : i = r
    · subst e; simp only [if_pos]; rw [row]; exact hi1
    · simp only [if_neg e]
      rw [low _ _ (by omega), hs0 _ (h.red.lt i (by omega)), h.red.one i (by omega)]; grind
  · intro i j hi hj
    by_cases e : i = r
    · subst e; simp only [if_pos] at hj; rw [row, hs0 j hj]; grind
    · simp only [if_neg e] at hj
      have := h.red.lt i (by omega)
      rw [low _ _ (by omega), hs0 _ (by omega), h.red.before i j (by omega) hj]; grind
  · intro i t hi ht hne
    by_cases e : i = r
    · subst e; simp only [if_pos]
      rw [low _ _ (by omega), hi1]; grind
    · simp only [if_neg e]
      have h1 := h.red.lt i (by omega)
      by_cases e' : t = r
      · subst e'; rw [row, hs0 _ h1]; grind
      · rw [low _ _ (by omega), hs0 _ h1, h.red.other i t (by omega) (by omega) hne]; grind
  · intro i j hi hin hj
    obtain ⟨t, ht, htn, e⟩ := up i (by omega) (by omega) hin
    rw [e]
    by_cases ej : j = k
    · subst ej; rw [hi1]; grind
    · rw [hs0 j (by omega), h.rest t j ht htn (by omega)]; grind
  · intro i hi
    by_cases e : i = r
    · subst e
      exact ((h.to s hsn).mul (kInv (G s k))).ext fun j _ => by rw [row]; grind
    · have hh : ∃ t, t < n ∧ ∀ j, clr G r s k i j = G t j - G t k * (G s j * kInv (G s k)) := by
        by_cases hlt : i < r
        · exact ⟨i, hi, fun j => low i j hlt⟩
        · obtain ⟨t, _, h2, h3⟩ := up i e (by omega) hi; exact ⟨t, h2, h3⟩
      obtain ⟨t, ht, e⟩ := hh
      exact ((h.to t ht).lin (h.to s hsn) (-(G t k * kInv (G s k)))).ext fun j _ => by rw [e]; grind
  · intro i hi
    have hrow : ∀ i, i < n → InSpan n m (clr G r s k) (G i) := by
      have hS : InSpan n m (clr G r s k) (G s) := ((InSpan.row (B := clr G r s k) (m := m) (show r < n by omega)).mul (G s k)).ext fun j _ => by rw [row]; grind
      intro i hi
      by_cases es : i = s
      · subst es; exact hS
      · -- row i stands at i, or, if it is r, at s
        have hh : ∃ t, t < n ∧ ∀ j, clr G r s k t j = G i j - G i k * (G s j * kInv (G s k)) := by
          by_cases e : i = r
          · exact ⟨s, hsn, fun j => by simp only [clr, if_neg (show ¬ s = r by omega), if_pos]; rw [e]⟩
          · exact ⟨i, hi, fun j => by simp only [clr, if_neg e, if_neg es]⟩
        obtain ⟨t, ht, e⟩ := hh
        exact ((InSpan.row (B := clr G r s k) (m := m) ht).lin hS (G i k * kInv (G s k))).ext fun j _ => by rw [e]; grind
    exact (h.from' i hi).trans hrow
theorem gau_inv (n m : Nat) (F : Mat) (k : Nat) : ∃ p, GInv n m F k (gau n F k).1 (gau n F k).2.1 p := by
  induction k with
  | zero => exact ⟨_, ginv_zero n m F⟩
  | succ k ih =>
    obtain ⟨p, h⟩ := ih
    by_cases hp : piv (gau n F k).1 n k (gau n F k).2.1 < n
    · have hs := piv_spec (gau n F k).1 n k _ (gau n F k).2.1 rfl h.rn
      rw [gau_yes hp]
      exact ⟨_, ginv_yes h hs.1 hp (hs.2.2.2 hp)⟩
    · rw [gau_no hp]; exact ⟨p, ginv_no h hp⟩
/-- the basis of the rows: as many as the rank, reduced, with the same span -/
theorem gau_basis (n m : Nat) (F : Mat) :
    ∃ p, IsRed (gau n F m).2.1 m (gau n F m).1 p ∧ (∀ i, i < (gau n F m).2.1 → InSpan n m F ((gau n F m).1 i)) ∧ ∀ i, i < n → InSpan (gau n F m).2.1 m (gau n F m).1 (F i) := by
  obtain ⟨p, h⟩ := gau_inv n m F m
  refine ⟨p, h.red, fun i hi => h.to i (by have := h.rn; omega), fun i hi => ?_⟩
  obtain ⟨c, hc⟩ := h.from' i hi
  refine ⟨c, fun j hj => ?_⟩
  rw [hc j hj]
  have hn := h.rn
  have hrest := h.rest
  generalize (gau n F m).2.1 = r at *
  generalize (gau n F m).1 = G at *
  clear hc h hi
  induction n with
  | zero => rw [show r = 0 by omega]
  | succ n ih =>
    by_cases e : r = n + 1
    · rw [e]
    · simp only [sumK]
      rw [ih (by omega) (fun i j a b c => hrest i j a (by omega) c), hrest n j (by omega) (by omega) hj]; grind
/-- the first q rows of Z are the reduced basis of the kernel of the n rows of A -/
structure IsKer (n m : Nat) (A : Mat) (q : Nat) (Z : Mat) : Prop where
  red : ∃ p, IsRed q m Z p
  ker : ∀ i, i < q → ∀ t, t < n → sumK m (fun j => A t j * Z i j) = 0
  all : ∀ v : Nat → K, (∀ t, t < n → sumK m (fun j => A t j * v j) = 0) → InSpan q m Z v
theorem IsKer.unique {n m : Nat} {A : Mat} {q r : Nat} {Y Z : Mat} (h : IsKer n m A q Y) (k : IsKer n m A r Z) : q = r ∧ ∀ i, i < q → ∀ j, j < m → Y i j = Z i j := by
  obtain ⟨p, hp⟩ := h.red
  obtain ⟨p', hp'⟩ := k.red
  exact red_unique hp hp' (fun i hi => k.all _ (h.ker i hi)) (fun i hi => h.all _ (k.ker i hi))
theorem sumK_split (n m : Nat) (f : Nat → K) : sumK (n + m) f = sumK n f + sumK m (fun i => f (n + i)) := by
  induction m with
  | zero => simp only [sumK]; show sumK n f = sumK n f + 0; grind
  | succ m ih => rw [← Nat.add_assoc]; simp only [sumK]; rw [ih]; grind
theorem sumK_mul_right (n : Nat) (c : K) (f : Nat → K) : sumK n (fun i => f i * c) = sumK n f * c := by
  rw [sumK_congr (g := fun i => c * f i) (fun i _ => by grind), sumK_mul]; grind
/-- vectors of the span of rows that are led to 0 are led to 0 -/
theorem ker_span {r s m : Nat} {B C : Mat} (h : ∀ i, i < r → InSpan s m C (B i)) {v : Nat → K} (hv : ∀ t, t < s → sumK m (fun j => C t j * v j) = 0) : ∀ t, t < r → sumK m (fun j => B t j * v j) = 0 := by
  intro t ht
  obtain ⟨c, hc⟩ := h t ht
  rw [sumK_congr (g := fun j => sumK s (fun i => c i * (C i j * v j))) (fun j hj => by
    rw [hc j hj, ← sumK_mul_right]
    exact sumK_congr fun i _ => by grind), sumK_comm, sumK_congr (g := fun _ => 0), sumK_zero]
  intro i hi
  rw [sumK_mul, hv i hi]; grind
theorem IsKer.of_span {n n' m : Nat} {A A' : Mat} {q : Nat} {Z : Mat} (h : IsKer n m A q Z) (h1 : ∀ i, i < n → InSpan n' m A' (A i)) (h2 : ∀ i, i < n' → InSpan n m A (A' i)) : IsKer n' m A' q Z :=
  ⟨h.red, fun i hi => ker_span h2 (h.ker i hi), fun v hv => h.all v (ker_span h1 hv)⟩
/-- the columns of A in rows, with the unit matrix behind them -/
def besideUnit (n : Nat) (A : Mat) : Mat := fun i j => if j < n then A j i else if j = n + i then 1 else 0
theorem ker_cut {n m R c : Nat} {A B : Mat} {p : Nat → Nat} (hr : IsRed R (n + m) B p) (hto : ∀ i, i < R → InSpan m (n + m) (besideUnit n A) (B i)) (hfrom : ∀ i, i < m → InSpan R (n + m) B (besideUnit n A i))
    (hc : c ≤ R) (h1 : ∀ i, i < c → p i < n) (h2 : ∀ i, c ≤ i → i < R → n ≤ p i) : IsKer n m A (R - c) (fun i j => B (c + i) (n + j)) := by
  refine ⟨⟨fun i => p (c + i) - n, ⟨?_, ?_, ?_, ?_, ?_⟩⟩, ?_, ?_⟩
  · intro i hi; have := hr.lt (c + i) (by omega); have := h2 (c + i) (by omega) (by omega); omega
  · intro i j hij hj; have := hr.inc (c + i) (c + j) (by omega) (by omega); have := h2 (c + i) (by omega) (by omega); omega
  · intro i hi; have := h2 (c + i) (by omega) (by omega)
    show B (c + i) (n + (p (c + i) - n)) = 1
    rw [show n + (p (c + i) - n) = p (c + i) by omega]; exact hr.one _ (by omega)
  · intro i j hi hj; exact hr.before _ _ (by omega) (by omega)
  · intro i k hi hk hne; have := h2 (c + i) (by omega) (by omega)
    show B (c + k) (n + (p (c + i) - n)) = 0
    rw [show n + (p (c + i) - n) = p (c + i) by omega]; exact hr.other _ _ (by omega) (by omega) (by omega)
  · intro i hi t ht
    obtain ⟨d, hd⟩ := hto (c + i) (by omega)
    have e0 : B (c + i) t = 0 := hr.before _ _ (by omega) (by have := h2 (c + i) (by omega) (by omega); omega)
    have e1 : ∀ j, j < m → B (c + i) (n + j) = d j := fun j hj => by
      rw [hd _ (by omega), sumK_one m j hj]
      · simp only [besideUnit, if_neg (show ¬ n + j < n by omega), if_pos]; grind
      · intro k _ hne
        simp only [besideUnit, if_neg (show ¬ n + j < n by omega), if_neg (show ¬ n + j = n + k by omega)]; grind
    rw [hd t (by omega)] at e0
    rw [← e0]
    exact sumK_congr fun j hj => by
      rw [e1 j hj]; simp only [besideUnit, if_pos ht]; grind
  · intro v hv
    let u : Nat → K := fun j => if j < n then 0 else v (j - n)
    have hu : InSpan m (n + m) (besideUnit n A) u := by
      refine ⟨v, fun j hj => ?_⟩
      by_cases h : j < n
      · simp only [u, if_pos h]
        rw [← hv j h]
        exact sumK_congr fun i hi => by simp only [besideUnit, if_pos h]; grind
      · simp only [u, if_neg h]
        rw [sumK_one m (j - n) (by omega)]
        · simp only [besideUnit, if_neg h, if_pos (show j = n + (j - n) by omega)]; grind
        · intro k _ hne
          simp only [besideUnit, if_neg h, if_neg (show ¬ j = n + k by omega)]; grind
    have hs := hr.span (hu.trans hfrom)
    refine ⟨fun i => u (p (c + i)), fun j hj => ?_⟩
    have := hs (n + j) (by omega)
    rw [show R = c + (R - c) by omega, sumK_split] at this
    have e : u (n + j) = v j := by simp only [u, if_neg (show ¬ n + j < n by omega)]; rw [show n + j - n = j by omega]
    rw [← e, this, sumK_congr (n := c) (g := fun _ => 0) (fun i hi => by simp only [u, if_pos (h1 i hi)]; grind), sumK_zero]
    grind
/-- the vectors by free places: what holds before the place k -/
structure FreeInv (n m : Nat) (A : Mat) (r : Nat) (p : Nat → Nat) (k : Nat) (s : Nat) (L : Mat) : Prop where
  ker : ∀ i, i < s → ∀ t, t < n → sumK m (fun j => A t j * L i j) = 0
  all : ∀ v : Nat → K, (∀ t, t < n → sumK m (fun j => A t j * v j) = 0) → (∀ j, k ≤ j → j < m → (∀ i, i < r → p i ≠ j) → v j = 0) → InSpan s m L v
theorem red_ker {r m : Nat} {B : Mat} {p : Nat → Nat} (h : IsRed r m B p) {v : Nat → K} (hv : ∀ j, j < m → (∀ i, i < r → p i ≠ j) → v j = 0) {t : Nat} (ht : t < r) : sumK m (fun j => B t j * v j) = v (p t) := by
  rw [sumK_one m (p t) (h.lt t ht)]
  · rw [h.one t ht]; grind
  · intro j hj hne
    by_cases e : ∃ i, i < r ∧ p i = j
    · obtain ⟨i, hi, rfl⟩ := e
      rw [h.other i t hi ht (fun e => hne (by rw [e]))]; grind
    · rw [hv j hj (fun i hi he => e ⟨i, hi, he⟩)]; grind
theorem free_zero {n m r : Nat} {A B L : Mat} {p : Nat → Nat} (h : IsRed r m B p) (hto : ∀ i, i < r → InSpan n m A (B i)) : FreeInv n m A r p 0 0 L := by
  refine ⟨by omega, fun v hv h0 => ⟨fun _ => 0, fun j hj => ?_⟩⟩
  show v j = 0
  by_cases e : ∃ i, i < r ∧ p i = j
  · obtain ⟨i, hi, rfl⟩ := e
    rw [← red_ker h (fun j hj hne => h0 j (by omega) hj hne) hi]
    exact ker_span hto hv i hi
  · exact h0 j (by omega) hj (fun i hi he => e ⟨i, hi, he⟩)
theorem free_skip {n m r k s : Nat} {A L : Mat} {p : Nat → Nat} (h : FreeInv n m A r p k s L) {i : Nat} (hi : i < r) (he : p i = k) : FreeInv n m A r p (k + 1) s L :=
  ⟨h.ker, fun v hv h0 => h.all v hv fun j hj hm hne => by
    by_cases e : j = k
    · exact absurd (he.trans e.symm) (hne i hi)
    · exact h0 j (by omega) hm hne⟩
/-- the vector of a free place -/
def freeV (B : Mat) (r : Nat) (p : Nat → Nat) (k : Nat) (z : Nat → K) : Prop :=
  (∀ i, i < r → z (p i) = - B i k) ∧ z k = 1 ∧ ∀ j, j ≠ k → (∀ i, i < r → p i ≠ j) → z j = 0
theorem free_add {n m r k s : Nat} {A B L : Mat} {p : Nat → Nat} (hr : IsRed r m B p) (hfrom : ∀ i, i < n → InSpan r m B (A i)) (h : FreeInv n m A r p k s L) (hk : k < m) (hne : ∀ i, i < r → p i ≠ k) {z : Nat → K} (hz : freeV B r p k z) {L' : Mat}
    (h1 : ∀ i, i < s → ∀ j, j < m → L' i j = L i j) (h2 : ∀ j, j < m → L' s j = z j) : FreeInv n m A r p (k + 1) (s + 1) L' := by
  obtain ⟨z1, z2, z3⟩ := hz
  have hzB : ∀ t, t < r → sumK m (fun j => B t j * z j) = 0 := by
    intro t ht
    have hv := red_ker hr (v := fun j => if j = k then 0 else z j) (fun j hj hn => by
      by_cases e : j = k
      · simp only [if_pos e]
      · simp only [if_neg e]; exact z3 j e hn) ht
    simp only [if_neg (hne t ht)] at hv
    rw [sumK_congr (g := fun j => B t j * (if j = k then 0 else z j) + B t j * (if j = k then z j else 0)) (fun j _ => by by_cases e : j = k <;> simp only [e, if_true, if_false] <;> grind), sumK_add, hv,
      sumK_one m k hk _ (fun j _ hj => by simp only [if_neg hj]; grind), z1 t ht]
    simp only [if_pos]; rw [z2]; grind
  have hzA : ∀ t, t < n → sumK m (fun j => A t j * z j) = 0 := ker_span hfrom hzB
  refine ⟨fun i hi t ht => ?_, fun v hv h0 => ?_⟩
  · by_cases e : i = s
    · rw [e, ← hzA t ht]; exact sumK_congr fun j hj => by rw [h2 j hj]
    · rw [← h.ker i (by omega) t ht]; exact sumK_congr fun j hj => by rw [h1 i (by omega) j hj]
  · obtain ⟨c, hc⟩ := h.all (fun j => v j - v k * z j) (fun t ht => by
      rw [sumK_congr (g := fun j => A t j * v j + (- v k) * (A t j * z j)) (fun j _ => by grind), sumK_add, sumK_mul, hv t ht, hzA t ht]; grind) (fun j hj hm hn => by
        by_cases e : j = k
        · show v j - v k * z j = 0
          rw [e, z2]; grind
        · show v j - v k * z j = 0
          rw [h0 j (by omega) hm hn, z3 j e hn]; grind)
    refine ⟨fun i => if i = s then v k else c i, fun j hj => ?_⟩
    have := hc j hj
    simp only [sumK, if_true]
    rw [h2 j hj, sumK_congr (g := fun i => c i * L i j) (fun i hi => by simp only [if_neg (show ¬ i = s by omega)]; rw [h1 i hi j hj]), ← this]
    grind
theorem free_all {n m r s : Nat} {A L : Mat} {p : Nat → Nat} (h : FreeInv n m A r p m s L) : IsKer n m A (gau s L m).2.1 (gau s L m).1 := by
  obtain ⟨p', hp, hto, hfrom⟩ := gau_basis s m L
  refine ⟨⟨p', hp⟩, fun i hi t ht => ?_, fun v hv => (h.all v hv (by omega)).trans hfrom⟩
  obtain ⟨c, hc⟩ := hto i hi
  rw [sumK_congr (g := fun j => sumK s (fun x => c x * (A t j * L x j))) (fun j hj => by
    rw [hc j hj, ← sumK_mul]
    exact sumK_congr fun x _ => by grind), sumK_comm, sumK_congr (g := fun _ => 0), sumK_zero]
  intro x hx
  rw [sumK_mul, h.ker x hx t ht]; grind
/-- A with the unit matrix beside it -/
def withUnit (n : Nat) (A : Mat) : Mat := fun i j => if j < n then A i j else if j = n + i then 1 else 0
/-- the first columns of the elimination see these columns alone -/
theorem gau_front {n m : Nat} {A W : Mat} (h : ∀ i j, j < m → W i j = A i j) (k : Nat) (hk : k ≤ m) : (gau n W k).2.1 = (gau n A k).2.1 ∧ ∀ i j, j < m → (gau n W k).1 i j = (gau n A k).1 i j := by
  induction k with
  | zero => exact ⟨rfl, h⟩
  | succ k ih =>
    obtain ⟨e1, e2⟩ := ih (by omega)
    have hr := gau_rank n A k
    have ep : piv (gau n W k).1 n k (gau n W k).2.1 = piv (gau n A k).1 n k (gau n A k).2.1 := by
      rw [e1]; exact piv_congr hr.2 (fun i _ => e2 i k (by omega))
    by_cases hp : piv (gau n A k).1 n k (gau n A k).2.1 < n
    · rw [gau_yes hp, gau_yes (by rw [ep]; exact hp), ep, e1]
      refine ⟨rfl, fun i j hj => ?_⟩
      simp only [clr]
      rw [e2 _ j hj, e2 _ k (by omega), e2 _ j hj, e2 i j hj, e2 _ k (by omega), e2 i k (by omega)]
    · rw [gau_no hp, gau_no (by rw [ep]; exact hp)]
      exact ⟨e1, e2⟩
/-- no sum of multiples of the rows is 0 but that with zeros -/
def Indep (n m : Nat) (G : Mat) : Prop := ∀ x : Nat → K, (∀ j, j < m → sumK n (fun i => x i * G i j) = 0) → ∀ i, i < n → x i = 0
theorem indep_unit (n : Nat) (A : Mat) : Indep n (n + n) (withUnit n A) := by
  intro x hx i hi
  have := hx (n + i) (by omega)
  rw [sumK_one n i hi] at this
  · simp only [withUnit, if_neg (show ¬ n + i < n by omega), if_pos] at this; grind
  · intro k _ hne
    simp only [withUnit, if_neg (show ¬ n + i < n by omega), if_neg (show ¬ n + i = n + k by omega)]; grind
theorem sumK_ite (n a : Nat) (ha : a < n) (v : Nat → K) : sumK n (fun i => if i = a then v i else 0) = v a := by
  rw [sumK_one n a ha _ (fun i _ hne => by simp only [if_neg hne])]
  simp only [if_pos]
theorem sumK_two (n a b : Nat) (ha : a < n) (hb : b < n) (hab : a ≠ b) (f g : Nat → K) (h : ∀ i, i < n → i ≠ a → i ≠ b → f i = g i) (he : f a + f b = g a + g b) : sumK n f = sumK n g := by
  have h1 : ∀ f : Nat → K, sumK n f = sumK n (fun i => if i = a ∨ i = b then 0 else f i) + (f a + f b) := by
    intro f
    rw [sumK_congr (f := f) (g := fun i => (if i = a ∨ i = b then 0 else f i) + ((if i = a then f i else 0) + (if i = b then f i else 0))), sumK_add, sumK_add,
      sumK_ite n a ha f, sumK_ite n b hb f]
    · intro i _
      by_cases e1 : i = a
      · subst e1; simp only [if_pos, true_or, if_neg hab]; grind
      · by_cases e2 : i = b
        · subst e2; simp only [if_pos, or_true, if_neg e1]; grind
        · simp only [e1, e2, or_self, if_false]; grind
  rw [h1 f, h1 g, he]
  congr 1
  refine sumK_congr fun i hi => ?_
  by_cases e : i = a ∨ i = b
  · simp only [if_pos e]
  · simp only [if_neg e]; exact h i hi (fun h => e (Or.inl h)) (fun h => e (Or.inr h))
theorem sumK_swap (n a b : Nat) (ha : a < n) (hb : b < n) (f : Nat → K) : sumK n (fun i => f (if i = a then b else if i = b then a else i)) = sumK n f := by
  by_cases hab : a = b
  · subst hab
    refine sumK_congr fun i _ => ?_
    by_cases e : i = a
    · simp only [e, if_pos]
    · simp only [if_neg e]
  · refine sumK_two n a b ha hb hab _ _ (fun i _ h1 h2 => by simp only [if_neg h1, if_neg h2]) ?_
    simp only [if_pos, if_neg (fun h => hab (Eq.symm h))]
    grind
theorem indep_clr {n m : Nat} {G : Mat} {r s k : Nat} (h : Indep n m G) (hr : r < n) (hs : s < n) (hk : k < m) (hne : G s k ≠ 0) : Indep n m (clr G r s k) := by
  have hi1 := kInv_mul hne
  intro x hx
  -- coefficients of G's rows, exchanged
  let c : K := kInv (G s k) * (x r - sumK n (fun i => if i = r then 0 else x i * (if i = s then G r k else G i k)))
  let y : Nat → K := fun i => if i = r then c else x i
  have hz := h (fun i => y (if i = r then s else if i = s then r else i)) (fun j hj => ?_)
  · have hy : ∀ i, i < n → y i = 0 := fun i hi => by
      have hlt : (if i = r then s else if i = s then r else i) < n := by
        split
        · exact hs
        · split
          · exact hr
          · exact hi
      have := hz _ hlt
      rw [← this]
      congr 1
      by_cases e1 : i = r
      · subst e1
        by_cases e2 : s = i
        · simp only [e2, if_pos]
        · simp only [if_pos, if_neg e2]
      · by_cases e2 : i = s
        · subst e2; simp only [if_neg e1, if_pos]
        · simp only [if_neg e1, if_neg e2]
    have hoff : ∀ i, i < n → i ≠ r → x i = 0 := fun i hi hir => by have := hy i hi; simp only [y, if_neg hir] at this; exact this
    intro i hi
    by_cases e : i = r
    · have hc := hy r hr
      simp only [y, if_pos, c] at hc
      rw [sumK_congr (g := fun _ => 0) (fun t ht => by
        by_cases e : t = r
        · simp only [if_pos e]
        · simp only [if_neg e]; rw [hoff t ht e]; grind), sumK_zero] at hc
      rw [e]
      have : G s k * (kInv (G s k) * (x r - 0)) = G s k * 0 := by rw [hc]
      grind
    · exact hoff i hi e
  · have e0 : sumK n (fun i => y (if i = r then s else if i = s then r else i) * G i j) = sumK n (fun t => y t * G (if t = r then s else if t = s then r else t) j) := by
      rw [← sumK_swap n r s hr hs (fun t => y t * G (if t = r then s else if t = s then r else t) j)]
      refine sumK_congr fun i _ => ?_
      by_cases e1 : i = r
      · subst e1
        by_cases e2 : s = i
        · simp only [e2, if_pos]
        · simp only [if_pos, if_neg e2]
      · by_cases e2 : i = s
        · subst e2; simp only [if_neg e1, if_pos]
        · simp only [if_neg e1, if_neg e2]
    rw [e0]
    have := hx j hj
    rw [sumK_congr (g := fun i => (if i = r then x r * (G s j * kInv (G s k)) else x i * (if i = s then G r j else G i j)) + (- (G s j * kInv (G s k))) * (if i = r then 0 else x i * (if i = s then G r k else G i k))) (fun i _ => by
      by_cases e : i = r
      · subst e; simp only [clr, if_pos]; grind
      · simp only [clr, if_neg e]; grind), sumK_add, sumK_mul] at this
    rw [← this]
    have e2 : sumK n (fun i => if i = r then x r * (G s j * kInv (G s k)) else x i * (if i = s then G r j else G i j)) + -(G s j * kInv (G s k)) * sumK n (fun i => if i = r then 0 else x i * (if i = s then G r k else G i k))
      = sumK n (fun i => (if i = r then 0 else x i * (if i = s then G r j else G i j)) + (if i = r then c * G s j else 0)) := by
      rw [sumK_add, sumK_one n r hr (fun i => if i = r then c * G s j else 0) (fun i _ hne => by simp only [if_neg hne])]
      rw [sumK_congr (g := fun i => (if i = r then 0 else x i * (if i = s then G r j else G i j)) + (if i = r then x r * (G s j * kInv (G s k)) else 0)) (fun i _ => by
        by_cases e : i = r
        · simp only [if_pos e]; grind
        · simp only [if_neg e]; grind), sumK_add, sumK_one n r hr (fun i => if i = r then x r * (G s j * kInv (G s k)) else 0) (fun i _ hne => by simp only [if_neg hne])]
      simp only [if_pos, c]
      grind
    rw [e2]
    refine sumK_congr fun i _ => ?_
    by_cases e : i = r
    · subst e; simp only [y, if_pos]; grind
    · simp only [y, if_neg e]
      by_cases e' : i = s
      · simp only [if_pos e']; grind
      · simp only [if_neg e']; grind
theorem gau_indep {n m : Nat} {F : Mat} (h : Indep n m F) (k : Nat) (hk : k ≤ m) : Indep n m (gau n F k).1 := by
  induction k with
  | zero => exact h
  | succ k ih =>
    by_cases hp : piv (gau n F k).1 n k (gau n F k).2.1 < n
    · have hr := gau_rank n F k
      have hs := piv_spec (gau n F k).1 n k _ (gau n F k).2.1 rfl hr.2
      rw [gau_yes hp]
      exact indep_clr (ih (by omega)) (by omega) hp (by omega) (hs.2.2.2 hp)
    · rw [gau_no hp]; exact ih (by omega)
/-- independent rows: as many in the basis -/
theorem indep_rank {n m : Nat} {F : Mat} (h : Indep n m F) : (gau n F m).2.1 = n := by
  obtain ⟨p, hv⟩ := gau_inv n m F m
  have hn := hv.rn
  by_cases e : (gau n F m).2.1 < n
  · exfalso
    have hi := gau_indep h m (Nat.le_refl _) (fun i => if i = (gau n F m).2.1 then 1 else 0) (fun j hj => by
      rw [sumK_one n (gau n F m).2.1 e _ (fun i _ hne => by simp only [if_neg hne]; grind), hv.rest _ j (Nat.le_refl _) e hj]; grind) _ e
    simp only [if_pos] at hi
    exact absurd hi (by decide)
  · omega
/-- the rows of the basis before a column stay, up to it, those of the basis; a last row that comes later begins later -/
theorem gau_late (n m : Nat) (F : Mat) (k : Nat) (p : Nat → Nat) (hp : GInv n m F k (gau n F k).1 (gau n F k).2.1 p) : ∀ d, k + d ≤ m → ∃ p', GInv n m F (k + d) (gau n F (k + d)).1 (gau n F (k + d)).2.1 p' ∧ (gau n F k).2.1 ≤ (gau n F (k + d)).2.1 ∧ (∀ i, i < (gau n F k).2.1 → p' i = p i) ∧ ∀ i, (gau n F k).2.1 ≤ i → i < (gau n F (k + d)).2.1 → k ≤ p' i := by
  intro d
  induction d with
  | zero => intro _; exact ⟨p, hp, Nat.le_refl _, fun _ _ => rfl, by intro i h1 h2; simp only [Nat.add_zero] at h2; omega⟩
  | succ d ih =>
    intro hd
    obtain ⟨q, hq, h1, h2, h3⟩ := ih (by omega)
    by_cases hx : piv (gau n F (k + d)).1 n (k + d) (gau n F (k + d)).2.1 < n
    · have hs := piv_spec (gau n F (k + d)).1 n (k + d) _ (gau n F (k + d)).2.1 rfl hq.rn
      rw [← Nat.add_assoc, gau_yes hx]
      refine ⟨_, ginv_yes hq hs.1 hx (hs.2.2.2 hx), by simp only; omega, fun i hi => ?_, fun i hi1 hi2 => ?_⟩
      · simp only [if_neg (show ¬ i = (gau n F (k + d)).2.1 by omega)]; exact h2 i hi
      · simp only at hi2
        by_cases e : i = (gau n F (k + d)).2.1
        · simp only [if_pos e]; omega
        · simp only [if_neg e]; exact h3 i hi1 (by omega)
    · rw [← Nat.add_assoc, gau_no hx]
      exact ⟨q, ginv_no hq hx, h1, h2, h3⟩
/-- the determinant is other than 0 exactly if the last row of the basis of the matrix beside the unit matrix has its one in the matrix -/
theorem inv_test {n : Nat} {A : Mat} (hn : 0 < n) : (gau n (withUnit n A) (n + n)).2.1 = n ∧ ((gau n (withUnit n A) (n + n)).1 (n - 1) (n - 1) = 0 ↔ (gau n A n).2.1 < n) := by
  have hr := indep_rank (indep_unit n A)
  refine ⟨hr, ?_⟩
  obtain ⟨e1, _⟩ := gau_front (n := n) (m := n) (A := A) (W := withUnit n A) (fun i j hj => by simp only [withUnit, if_pos hj]) n (Nat.le_refl _)
  obtain ⟨p, hp⟩ := gau_inv n (n + n) (withUnit n A) n
  obtain ⟨q, hq, h1, h2, h3⟩ := gau_late n (n + n) (withUnit n A) n p hp n (by omega)
  rw [e1] at h1 h2 h3
  have hle := (gau_rank n A n).2
  constructor
  · intro h0
    by_cases hlt : (gau n A n).2.1 < n
    · exact hlt
    · exfalso
      have hfull : (gau n A n).2.1 = n := by omega
      -- n places below n, increasing: the last one is n - 1
      have hpl : ∀ i, i < n → i ≤ q i := by
        intro i
        induction i with
        | zero => omega
        | succ i ih => intro hi; have := hq.red.inc i (i + 1) (by omega) (by omega); have := ih (by omega); omega
      have h5 := hpl (n - 1) (by omega)
      have h4 := h2 (n - 1) (by omega)
      have h6 := hp.red.lt (n - 1) (by rw [e1]; omega)
      have h7 := hq.red.one (n - 1) (by omega)
      rw [show q (n - 1) = n - 1 by omega, h0] at h7
      exact absurd h7 (by decide)
  · intro hlt
    have h4 := h3 (n - 1) (by omega) (by omega)
    exact hq.red.before (n - 1) (n - 1) (by omega) (by omega)
end Go.Proofs.Ytmdmojklagmmiaa
