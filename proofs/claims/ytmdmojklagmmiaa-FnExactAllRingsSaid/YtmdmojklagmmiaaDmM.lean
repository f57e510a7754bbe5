/- Rings: what the first faults say; sums; dimensions are unique; weights come near them. -/
import Derived.Test.YtmdmojklagmmiaaRgF
namespace Go.Proofs.Ytmdmojklagmmiaa
set_option linter.unusedSimpArgs false
theorem sumZ_add (g h : Nat → Int) (n : Nat) : sumZ (fun i => g i + h i) n = sumZ g n + sumZ h n := by
  induction n with
  | zero => rfl
  | succ n ih => simp only [sumZ]; omega
theorem sumZ_mul (c : Int) (g : Nat → Int) (n : Nat) : sumZ (fun i => c * g i) n = c * sumZ g n := by
  induction n with
  | zero => simp [sumZ]
  | succ n ih => simp only [sumZ]; rw [ih, Int.mul_add]
theorem sumZ_null (n : Nat) : sumZ (fun _ => 0) n = 0 := by
  induction n with
  | zero => rfl
  | succ n ih => simp only [sumZ]; omega
theorem sumZ_swap (g : Nat → Nat → Int) (n m : Nat) : sumZ (fun i => sumZ (fun j => g i j) m) n = sumZ (fun j => sumZ (fun i => g i j) n) m := by
  induction n with
  | zero => simp only [sumZ]; exact (sumZ_null m).symm
  | succ n ih =>
    simp only [sumZ]
    rw [ih, ← sumZ_add]
theorem sumZ_mono {g h : Nat → Int} {n : Nat} (e : ∀ i, i < n → g i ≤ h i) : sumZ g n ≤ sumZ h n := by
  induction n with
  | zero => exact Int.le_refl _
  | succ n ih =>
    have := ih fun i hi => e i (by omega)
    have := e n (by omega)
    simp only [sumZ]; omega
theorem sumZ_pos {g : Nat → Int} {n : Nat} (e : ∀ i, i < n → 0 ≤ g i) : 0 ≤ sumZ g n := by
  have := sumZ_mono (g := fun _ => 0) (h := g) e
  rw [sumZ_null] at this
  exact this
theorem sumZ_term {g : Nat → Int} {n i : Nat} (e : ∀ i, i < n → 0 ≤ g i) (hi : i < n) : g i ≤ sumZ g n := by
  induction n with
  | zero => omega
  | succ n ih =>
    have h1 := sumZ_pos (g := g) (n := n) fun k hk => e k (by omega)
    have h2 := e n (by omega)
    simp only [sumZ]
    by_cases c : i = n
    · subst c; omega
    · have := ih (fun k hk => e k (by omega)) (by omega); omega
theorem sumZ_some {g : Nat → Int} {n : Nat} (_e : ∀ i, i < n → 0 ≤ g i) (h : 0 < sumZ g n) : ∃ i, i < n ∧ 0 < g i := by
  refine Classical.byContradiction fun hc => ?_
  have := sumZ_mono (g := g) (h := fun _ => 0) (n := n) fun i hi => Int.not_lt.1 fun h' => hc ⟨i, hi, h'⟩
  rw [sumZ_null] at this
  omega
theorem sumZ_only {g : Nat → Int} {n i : Nat} (hi : i < n) (e : ∀ k, k < n → k ≠ i → g k = 0) : sumZ g n = g i := by
  induction n with
  | zero => omega
  | succ n ih =>
    simp only [sumZ]
    by_cases c : i = n
    · subst c
      rw [sumZ_congr (h := fun _ => 0) (fun k hk => e k (by omega) (by omega)), sumZ_null]; omega
    · rw [ih (by omega) fun k hk hne => e k (by omega) hne, e n (by omega) (by omega)]; omega
theorem sumZ_const (c : Int) (n : Nat) : sumZ (fun _ => c) n = n * c := by
  induction n with
  | zero => simp [sumZ]
  | succ n ih =>
    simp only [sumZ]
    rw [ih, show ((n + 1 : Nat) : Int) = (n : Int) + 1 by omega, Int.add_mul]; omega
/-- the laws of a ring, by its numbers -/
structure Rng (n : Nat) (f : Nat → Nat → Nat → Int) : Prop where
  h0 : 0 < n
  h16 : n ≤ 16
  num : ∀ i j k, i < n → j < n → k < n → 0 ≤ f i j k ∧ f i j k ≤ 1000
  unitl : ∀ i k, i < n → k < n → f 0 i k = if i = k then 1 else 0
  unitr : ∀ i k, i < n → k < n → f i 0 k = if i = k then 1 else 0
  dlt : ∀ i, i < n → dn n f i < n
  dd : ∀ i, i < n → dn n f (dn n f i) = i
  dcast : ∀ i, i < n → dualOf n f i = (dn n f i : Nat)
  d1 : ∀ i, i < n → f i (dn n f i) 0 = 1
  d0 : ∀ i j, i < n → j < n → j ≠ dn n f i → f i j 0 = 0
  turn1 : ∀ i j k, i < n → j < n → k < n → f i j k = f (dn n f i) k j
  turn2 : ∀ i j k, i < n → j < n → k < n → f i j k = f k (dn n f j) i
  assoc : ∀ i j k l, i < n → j < n → k < n → l < n → s1 n f i j k l = s2 n f i j k l
theorem fltU_t {n : Nat} {f : Nat → Nat → Nat → Int} (h : fltU n f = []) : ∀ i, i < n → ∀ k, k < n → ub f i k = false := by
  intro i hi k hk
  cases hp : ub f i k with
  | false => rfl
  | true =>
    have := ff_lt hi (row2_yes hk hp)
    unfold fltU at h; rw [if_pos this] at h; cases h
theorem fltD_t {n : Nat} {f : Nat → Nat → Nat → Int} (h : fltD n f = []) : ∀ i, i < n → db n f i = false := by
  intro i hi
  cases hp : db n f i with
  | false => rfl
  | true =>
    have := ff_lt hi hp
    unfold fltD at h; rw [if_pos this] at h; cases h
theorem fltT_t {n : Nat} {f : Nat → Nat → Nat → Int} (h : fltT n f = []) : ∀ i, i < n → ∀ j, j < n → ∀ k, k < n → tb n f i j k = false := by
  intro i hi j hj k hk
  cases hp : tb n f i j k with
  | false => rfl
  | true =>
    have := ff_lt (P := row2 (fun i => row2 (tb n f i) n) n) hi (row2_yes (P := fun i => row2 (tb n f i) n) hj (row2_yes hk hp))
    simp only [fltT, if_pos this] at h; cases h
theorem fltS_t {n : Nat} {f : Nat → Nat → Nat → Int} (h : fltS n f = []) : ∀ i, i < n → ∀ j, j < n → ∀ k, k < n → ∀ l, l < n → sb n f i j k l = false := by
  intro i hi j hj k hk l hl
  cases hp : sb n f i j k l with
  | false => rfl
  | true =>
    have := ff_lt (P := row2 (fun i => row2 (fun j => row2 (sb n f i j) n) n) n) hi (row2_yes (P := fun i => row2 (fun j => row2 (sb n f i j) n) n) hj (row2_yes (P := fun j => row2 (sb n f i j) n) hk (row2_yes hl hp)))
    simp only [fltS, if_pos this] at h; cases h
theorem rng_of {n : Nat} {M : Nat → Nat} {L : Nat → Nat → Nat} {f : Nat → Nat → Nat → Int} (hr : ringB n M L f = true) : Rng n f := by
  obtain ⟨hc, hf⟩ := ringB_t hr
  obtain ⟨h0, h16, hn⟩ := cub_num hc
  unfold flt at hf
  split at hf
  case isFalse h => exact absurd hf h
  rename_i hu
  split at hf
  case isFalse h => exact absurd hf h
  rename_i hd
  split at hf
  case isFalse h => exact absurd hf h
  rename_i ht
  have U : ∀ i k, i < n → k < n → f 0 i k = (if i = k then 1 else 0) ∧ f i 0 k = (if i = k then 1 else 0) := fun i k hi hk => by
    have := fltU_t hu i hi k hk
    simp only [ub, Bool.or_eq_false_iff, bne_eq_false_iff_eq] at this
    exact this
  have D : ∀ i, i < n → 0 ≤ dualOf n f i ∧ dualOf n f (dn n f i) = i := fun i hi => by
    have := fltD_t hd i hi
    simp only [db, Bool.or_eq_false_iff, bne_eq_false_iff_eq, decide_eq_false_iff_not] at this
    exact ⟨by omega, this.2⟩
  have T : ∀ i j k, i < n → j < n → k < n → f i j k = f (dn n f i) k j ∧ f i j k = f k (dn n f j) i := fun i j k hi hj hk => by
    have := fltT_t ht i hi j hj k hk
    simp only [tb, Bool.or_eq_false_iff, bne_eq_false_iff_eq] at this
    exact this
  refine ⟨h0, h16, hn, fun i k hi hk => (U i k hi hk).1, fun i k hi hk => (U i k hi hk).2, fun i hi => (dual_is (D i hi).1).1, fun i hi => ?_, fun i hi => ?_, fun i hi => (dual_is (D i hi).1).2.1, fun i j hi hj hne => (dual_is (D i hi).1).2.2 j hj hne,
    fun i j k hi hj hk => (T i j k hi hj hk).1, fun i j k hi hj hk => (T i j k hi hj hk).2, fun i j k l hi hj hk hl => ?_⟩
  · have := (D i hi).2
    show (dualOf n f (dn n f i)).toNat = i
    omega
  · have := (D i hi).1
    unfold dn; omega
  · have := fltS_t hf i hi j hj k hk l hl
    simpa only [sb, bne_eq_false_iff_eq] using this
/-- the numbers are the dimensions -/
def IsDim (n : Nat) (f : Nat → Nat → Nat → Int) (d : Nat → Int) : Prop := ∀ i, i < n → 1 ≤ d i ∧ ∀ j, j < n → sumZ (fun k => f i j k * d k) n = d i * d j
theorem dim_swap {n : Nat} {f : Nat → Nat → Nat → Int} (R : Rng n f) {d e : Nat → Int} (hd : IsDim n f d) (he : IsDim n f e) {i : Nat} (hi : i < n) : d i = e (dn n f i) := by
  have h1 : sumZ (fun j => sumZ (fun k => f i j k * d k * e j) n) n = d i * sumZ (fun j => d j * e j) n := by
    rw [← sumZ_mul]
    refine sumZ_congr fun j hj => ?_
    rw [sumZ_congr (h := fun k => e j * (f i j k * d k)) (fun k _ => by grind), sumZ_mul, (hd i hi).2 j hj]
    grind
  have h2 : sumZ (fun j => sumZ (fun k => f i j k * d k * e j) n) n = e (dn n f i) * sumZ (fun j => d j * e j) n := by
    rw [sumZ_swap, ← sumZ_mul]
    refine sumZ_congr fun k hk => ?_
    rw [sumZ_congr (h := fun j => d k * (f (dn n f i) k j * e j)) (fun j hj => by rw [R.turn1 i j k hi hj hk]; grind), sumZ_mul, (he _ (R.dlt i hi)).2 k hk]
    grind
  have h3 : 0 < sumZ (fun j => d j * e j) n := by
    have : d 0 * e 0 ≤ sumZ (fun j => d j * e j) n := sumZ_term (g := fun j => d j * e j) (fun j hj => Int.mul_nonneg (by have := (hd j hj).1; omega) (by have := (he j hj).1; omega)) R.h0
    have p : 0 < d 0 * e 0 := Int.mul_pos (by have := (hd 0 R.h0).1; omega) (by have := (he 0 R.h0).1; omega)
    omega
  exact Int.eq_of_mul_eq_mul_right (by omega) (h1.symm.trans h2)
theorem dim_dual {n : Nat} {f : Nat → Nat → Nat → Int} (R : Rng n f) {d : Nat → Int} (hd : IsDim n f d) {i : Nat} (hi : i < n) : d (dn n f i) = d i := (dim_swap R hd hd hi).symm
theorem dim_unique {n : Nat} {f : Nat → Nat → Nat → Int} (R : Rng n f) {d e : Nat → Int} (hd : IsDim n f d) (he : IsDim n f e) {i : Nat} (hi : i < n) : d i = e i := (dim_swap R hd he hi).trans (dim_dual R he hi)
theorem dim_zero {n : Nat} {f : Nat → Nat → Nat → Int} (R : Rng n f) {d : Nat → Int} (hd : IsDim n f d) : d 0 = 1 := by
  have h1 := (hd 0 R.h0).2 0 R.h0
  have h2 := (hd 0 R.h0).1
  rw [sumZ_only (i := 0) R.h0 (fun k hk hne => by rw [R.unitl 0 k R.h0 hk, if_neg (Ne.symm hne)]; simp), R.unitl 0 0 R.h0 R.h0, if_pos rfl] at h1
  have h3 : (1 : Int) * d 0 = d 0 * d 0 := h1
  exact (Int.eq_of_mul_eq_mul_right (by omega) h3).symm
theorem max_ex {n : Nat} (h0 : 0 < n) (d : Nat → Int) : ∃ m, m < n ∧ ∀ k, k < n → d k ≤ d m := by
  induction n with
  | zero => omega
  | succ n ih =>
    by_cases e : n = 0
    · subst e; exact ⟨0, by omega, fun k hk => by have : k = 0 := by omega
                                                  subst this; exact Int.le_refl _⟩
    · obtain ⟨m, hm, h⟩ := ih (by omega)
      by_cases c : d n ≤ d m
      · exact ⟨m, by omega, fun k hk => by
          by_cases e' : k = n
          · subst e'; exact c
          · exact h k (by omega)⟩
      · exact ⟨n, by omega, fun k hk => by
          by_cases e' : k = n
          · subst e'; exact Int.le_refl _
          · have := h k (by omega); omega⟩
theorem dim_le {n : Nat} {f : Nat → Nat → Nat → Int} (R : Rng n f) {d : Nat → Int} (hd : IsDim n f d) {i : Nat} (hi : i < n) : d i ≤ 16000 := by
  obtain ⟨m, hm, hmx⟩ := max_ex R.h0 d
  have h1 := (hd m hm).2 m hm
  have hp := (hd m hm).1
  have h2 : sumZ (fun k => f m m k * d k) n ≤ sumZ (fun _ => 1000 * d m) n := sumZ_mono fun k hk =>
    Int.mul_le_mul (R.num m m k hm hm hk).2 (hmx k hk) (by have := (hd k hk).1; omega) (by omega)
  rw [sumZ_const] at h2
  have h3 : (n : Int) * (1000 * d m) ≤ 16 * (1000 * d m) := Int.mul_le_mul_of_nonneg_right (by have := R.h16; omega) (by omega)
  have h4 : d m * d m ≤ 16000 * d m := by omega
  have h5 : d m ≤ 16000 := Int.le_of_mul_le_mul_right h4 (by omega)
  have := hmx i hi
  omega
/-- how many labels are in products: the matrix of a step of the weights -/
def lenZ (n : Nat) (f : Nat → Nat → Nat → Int) (j k : Nat) : Int := sumZ (fun i => f i j k) n
/-- the next weights -/
def nxZ (n : Nat) (f : Nat → Nat → Nat → Int) (v : Nat → Int) (j : Nat) : Int := sumZ (fun i => sumZ (fun k => f i j k * v k) n) n
theorem nx_len (n : Nat) (f : Nat → Nat → Nat → Int) (v : Nat → Int) (j : Nat) : nxZ n f v j = sumZ (fun k => lenZ n f j k * v k) n := by
  unfold nxZ
  rw [sumZ_swap]
  refine sumZ_congr fun k _ => ?_
  rw [sumZ_congr (h := fun i => v k * f i j k) (fun i _ => Int.mul_comm _ _), sumZ_mul]
  unfold lenZ; exact Int.mul_comm _ _
theorem nx_congr {n : Nat} {f : Nat → Nat → Nat → Int} {v u : Nat → Int} (h : ∀ k, k < n → v k = u k) (j : Nat) : nxZ n f v j = nxZ n f u j :=
  sumZ_congr fun i _ => sumZ_congr fun k hk => by rw [h k hk]
theorem len_zero {n : Nat} {f : Nat → Nat → Nat → Int} (R : Rng n f) {k : Nat} (hk : k < n) : lenZ n f 0 k = 1 := by
  unfold lenZ
  rw [sumZ_only (i := k) hk (fun i hi hne => by rw [R.unitr i k hi hk, if_neg hne]), R.unitr k k hk hk, if_pos rfl]
theorem len_pos {n : Nat} {f : Nat → Nat → Nat → Int} (R : Rng n f) {j k : Nat} (hj : j < n) (hk : k < n) : 1 ≤ lenZ n f j k := by
  have hdj := R.dlt j hj
  have h1 := R.assoc k (dn n f j) j k hk hdj hj hk
  have h2 : 1 ≤ s2 n f k (dn n f j) j k := by
    have e := sumZ_term (g := fun m => f (dn n f j) j m * f k m k) (n := n) (i := 0) (fun m hm => Int.mul_nonneg (R.num _ _ _ hdj hj hm).1 (R.num _ _ _ hk hm hk).1) R.h0
    have a : f (dn n f j) j 0 = 1 := by have := R.d1 _ hdj; rw [R.dd j hj] at this; exact this
    have b : f k 0 k = 1 := by rw [R.unitr k k hk hk, if_pos rfl]
    simp only [a, b] at e
    unfold s2; omega
  rw [← h1] at h2
  obtain ⟨m, hm, hp⟩ := sumZ_some (g := fun m => f k (dn n f j) m * f m j k) (n := n) (fun m hm => Int.mul_nonneg (R.num _ _ _ hk hdj hm).1 (R.num _ _ _ hm hj hk).1) (by unfold s1 at h2; omega)
  have hq : 1 ≤ f m j k := by
    have := (R.num m j k hm hj hk).1
    by_cases c : f m j k = 0
    · simp only [c] at hp; omega
    · omega
  have := sumZ_term (g := fun i => f i j k) (n := n) (i := m) (fun i hi => (R.num i j k hi hj hk).1) hm
  unfold lenZ
  have e : (fun i => f i j k) m = f m j k := rfl
  omega
theorem len_le {n : Nat} {f : Nat → Nat → Nat → Int} (R : Rng n f) {j k : Nat} (hj : j < n) (hk : k < n) : lenZ n f j k ≤ 16000 := by
  have := sumZ_bd (g := fun i => f i j k) (n := n) (B := 1000) (fun i hi => R.num i j k hi hj hk)
  have := R.h16
  unfold lenZ; omega
theorem len_dim {n : Nat} {f : Nat → Nat → Nat → Int} (R : Rng n f) {d : Nat → Int} (hd : IsDim n f d) {M : Int} (hM : ∀ k, k < n → d k ≤ M) {j k : Nat} (hj : j < n) (hk : k < n) : d j * d k ≤ M * lenZ n f j k := by
  have h1 := (hd k hk).2 (dn n f j) (R.dlt j hj)
  rw [dim_dual R hd hj] at h1
  have h2 : sumZ (fun i => f k (dn n f j) i * d i) n ≤ sumZ (fun i => M * f i j k) n := sumZ_mono fun i hi => by
    rw [← R.turn2 i j k hi hj hk, Int.mul_comm M]
    exact Int.mul_le_mul_of_nonneg_left (hM i hi) (R.num i j k hi hj hk).1
  rw [sumZ_mul] at h2
  unfold lenZ
  have := Int.mul_comm (d j) (d k)
  omega
theorem nx_dim {n : Nat} {f : Nat → Nat → Nat → Int} {d : Nat → Int} (hd : IsDim n f d) {j : Nat} (hj : j < n) : sumZ (fun k => lenZ n f j k * d k) n = sumZ d n * d j := by
  rw [← nx_len]
  unfold nxZ
  rw [sumZ_congr (h := fun i => d j * d i) (fun i hi => by rw [(hd i hi).2 j hj]; exact Int.mul_comm _ _), sumZ_mul]
  exact Int.mul_comm _ _
theorem dim_sq {n : Nat} (h16 : n ≤ 16) {d : Nat → Int} {m : Nat} (hm : m < n) : d m * sumZ d n ≤ 4 * sumZ (fun k => d k * d k) n := by
  have h1 := sumZ_term (g := fun k => (8 * d k - d m) * (8 * d k - d m)) (n := n) (i := m) (fun k _ => by
    rcases Int.le_total 0 (8 * d k - d m) with h | h
    · exact Int.mul_nonneg h h
    · exact Int.mul_nonneg_of_nonpos_of_nonpos h h) hm
  have h2 : sumZ (fun k => (8 * d k - d m) * (8 * d k - d m)) n = 64 * sumZ (fun k => d k * d k) n + (-16 * d m) * sumZ d n + n * (d m * d m) := by
    rw [← sumZ_const, ← sumZ_mul, ← sumZ_mul, ← sumZ_add, ← sumZ_add]
    exact sumZ_congr fun k _ => by grind
  have h3 : (n : Int) * (d m * d m) ≤ 16 * (d m * d m) := Int.mul_le_mul_of_nonneg_right (by omega) (by
    rcases Int.le_total 0 (d m) with h | h
    · exact Int.mul_nonneg h h
    · exact Int.mul_nonneg_of_nonpos_of_nonpos h h)
  have h4 : 0 ≤ d m * d m := by
    rcases Int.le_total 0 (d m) with h | h
    · exact Int.mul_nonneg h h
    · exact Int.mul_nonneg_of_nonpos_of_nonpos h h
  have h5 : (8 * d m - d m) * (8 * d m - d m) = 49 * (d m * d m) := by grind
  have h6 : (-16 * d m) * sumZ d n = -(16 * (d m * sumZ d n)) := by grind
  simp only [h5] at h1
  omega
/-- the numbers v are near multiples of d: all of v j / d j within a (1 .. 1 + r / 2^40) / Q -/
def Nr (n : Nat) (d v : Nat → Int) (r : Int) : Prop := ∃ Q a : Int, 0 < Q ∧ 0 < a ∧ ∀ j, j < n → a * d j ≤ Q * v j ∧ 1099511627776 * Q * v j ≤ a * (1099511627776 + r) * d j
theorem nr_start {n : Nat} {d v : Nat → Int} {c : Int} (hc : 0 < c) (hv : ∀ j, j < n → v j = c) (hd : ∀ j, j < n → 1 ≤ d j ∧ d j ≤ 16000) : Nr n d v 17592186044416000 := by
  refine ⟨16000, c, by omega, hc, fun j hj => ?_⟩
  rw [hv j hj]
  have := hd j hj
  constructor
  · rw [Int.mul_comm]; exact Int.mul_le_mul_of_nonneg_right this.2 (by omega)
  · have : c * 1 ≤ c * d j := Int.mul_le_mul_of_nonneg_left this.1 (by omega)
    have e : c * (1099511627776 + 17592186044416000) * d j = 17593285556043776 * (c * d j) := by grind
    omega
theorem nr_mono {n : Nat} {d v : Nat → Int} {r s : Int} (hd : ∀ j, j < n → 1 ≤ d j) (hr : r ≤ s) (h : Nr n d v r) : Nr n d v s := by
  obtain ⟨Q, a, hQ, ha, hj⟩ := h
  refine ⟨Q, a, hQ, ha, fun j h => ⟨(hj j h).1, Int.le_trans (hj j h).2 ?_⟩⟩
  exact Int.mul_le_mul_of_nonneg_right (Int.mul_le_mul_of_nonneg_left (by omega) (by omega)) (by have := hd j h; omega)
theorem nr_congr {n : Nat} {d v u : Nat → Int} {r : Int} (e : ∀ j, j < n → v j = u j) (h : Nr n d v r) : Nr n d u r := by
  obtain ⟨Q, a, hQ, ha, hj⟩ := h
  exact ⟨Q, a, hQ, ha, fun j h => by rw [← e j h]; exact hj j h⟩
theorem nr_step {n : Nat} {f : Nat → Nat → Nat → Int} (R : Rng n f) {d v : Nat → Int} (hd : IsDim n f d) {r s : Int} (hr : 0 ≤ r) (hrs : 3 * r ≤ 4 * s) (h : Nr n d v r) : Nr n d (nxZ n f v) s := by
  obtain ⟨Q, a, hQ, ha, hj⟩ := h
  obtain ⟨m, hm, hmx⟩ := max_ex R.h0 d
  have hM1 := (hd m hm).1
  have hsq := dim_sq R.h16 (d := d) hm
  obtain ⟨M, hM⟩ : ∃ M, M = d m := ⟨_, rfl⟩
  rw [← hM] at hmx hM1 hsq
  obtain ⟨S, hS⟩ : ∃ S, S = sumZ d n := ⟨_, rfl⟩
  obtain ⟨D, hD⟩ : ∃ D, D = sumZ (fun k => d k * d k) n := ⟨_, rfl⟩
  rw [← hS, ← hD] at hsq
  have hS0 : 0 < S := by
    have := sumZ_term (g := d) (n := n) (i := 0) (fun k hk => by have := (hd k hk).1; omega) R.h0
    have := (hd 0 R.h0).1
    omega
  have hu : ∀ k, k < n → 0 ≤ Q * v k - a * d k ∧ 1099511627776 * (Q * v k - a * d k) ≤ a * r * d k := fun k hk => by
    have := hj k hk
    have e : a * (1099511627776 + r) * d k = 1099511627776 * (a * d k) + a * r * d k := by grind
    have e2 : 1099511627776 * Q * v k = 1099511627776 * (Q * v k) := by grind
    omega
  obtain ⟨u, hue⟩ : ∃ u : Nat → Int, u = fun k => Q * v k - a * d k := ⟨_, rfl⟩
  have hu' : ∀ k, k < n → 0 ≤ u k ∧ 1099511627776 * u k ≤ a * r * d k := fun k hk => by rw [hue]; exact hu k hk
  obtain ⟨U, hU⟩ : ∃ U, U = sumZ (fun k => d k * u k) n := ⟨_, rfl⟩
  have hU0 : 0 ≤ U := by rw [hU]; exact sumZ_pos fun k hk => Int.mul_nonneg (by have := (hd k hk).1; omega) (hu' k hk).1
  have haSM : 0 < a * S * M := Int.mul_pos (Int.mul_pos ha hS0) (by omega)
  refine ⟨M * Q, a * S * M + U, Int.mul_pos (by omega) hQ, by omega, fun j hjn => ?_⟩
  have hdj := (hd j hjn).1
  have hg : ∀ k, k < n → 0 ≤ M * lenZ n f j k - d j * d k := fun k hk => by
    have := len_dim R hd hmx hjn hk; omega
  have key : M * Q * nxZ n f v j = (a * S * M + U) * d j + sumZ (fun k => (M * lenZ n f j k - d j * d k) * u k) n := by
    have e1 : M * Q * nxZ n f v j = sumZ (fun k => (M * lenZ n f j k - d j * d k) * u k + (d j * (d k * u k) + a * M * (lenZ n f j k * d k))) n := by
      rw [nx_len, ← sumZ_mul]
      refine sumZ_congr fun k _ => ?_
      rw [hue]
      grind
    rw [e1, sumZ_add, sumZ_add, sumZ_mul, sumZ_mul, ← hU, nx_dim hd hjn, ← hS]
    grind
  have hG : sumZ (fun k => (M * lenZ n f j k - d j * d k) * d k) n = d j * (M * S - D) := by
    have e1 : sumZ (fun k => (M * lenZ n f j k - d j * d k) * d k) n = sumZ (fun k => M * (lenZ n f j k * d k) + (-(d j)) * (d k * d k)) n := sumZ_congr fun k _ => by grind
    rw [e1, sumZ_add, sumZ_mul, sumZ_mul, nx_dim hd hjn, ← hS, ← hD]
    grind
  have hlow : 0 ≤ sumZ (fun k => (M * lenZ n f j k - d j * d k) * u k) n := sumZ_pos fun k hk => Int.mul_nonneg (hg k hk) (hu' k hk).1
  have hup : 1099511627776 * sumZ (fun k => (M * lenZ n f j k - d j * d k) * u k) n ≤ a * r * (d j * (M * S - D)) := by
    rw [← hG, ← sumZ_mul, ← sumZ_mul]
    refine sumZ_mono fun k hk => ?_
    have e1 : 1099511627776 * ((M * lenZ n f j k - d j * d k) * u k) = (M * lenZ n f j k - d j * d k) * (1099511627776 * u k) := by grind
    have e2 : a * r * ((M * lenZ n f j k - d j * d k) * d k) = (M * lenZ n f j k - d j * d k) * (a * r * d k) := by grind
    rw [e1, e2]
    exact Int.mul_le_mul_of_nonneg_left (hu' k hk).2 (hg k hk)
  obtain ⟨X, hX⟩ : ∃ X, X = sumZ (fun k => (M * lenZ n f j k - d j * d k) * u k) n := ⟨_, rfl⟩
  rw [← hX] at key hlow hup
  rw [show 1099511627776 * (M * Q) * nxZ n f v j = 1099511627776 * (M * Q * nxZ n f v j) by grind, key]
  refine ⟨by omega, ?_⟩
  have hard : 0 ≤ a * r * d j := Int.mul_nonneg (Int.mul_nonneg (by omega) hr) (by omega)
  have h3 : a * r * (d j * (M * S - D)) * 4 ≤ a * r * d j * (3 * (M * S)) := by
    rw [show a * r * (d j * (M * S - D)) * 4 = a * r * d j * (4 * (M * S - D)) by grind]
    exact Int.mul_le_mul_of_nonneg_left (by omega) hard
  have hs : 0 ≤ s := by omega
  have hSMd : 0 ≤ a * S * M * d j := Int.mul_nonneg (by omega) (by omega)
  have h4 : a * r * d j * (3 * (M * S)) ≤ 4 * (a * S * M * s * d j) := by
    rw [show a * r * d j * (3 * (M * S)) = a * S * M * d j * (3 * r) by grind, show 4 * (a * S * M * s * d j) = a * S * M * d j * (4 * s) by grind]
    exact Int.mul_le_mul_of_nonneg_left hrs hSMd
  have h5 : 0 ≤ U * s * d j := Int.mul_nonneg (Int.mul_nonneg hU0 hs) (by omega)
  have e : (a * S * M + U) * (1099511627776 + s) * d j = 1099511627776 * ((a * S * M + U) * d j) + a * S * M * s * d j + U * s * d j := by grind
  omega
theorem nr_scale {n : Nat} {d v z : Nat → Int} {r s H P B : Int} (hd : ∀ j, j < n → 1 ≤ d j) (hH : 0 < H) (hP : 0 < P) (hB : 0 < B) (hz : ∀ j, j < n → H * z j ≤ P * v j ∧ P * v j < H * z j + H ∧ B ≤ z j) (hrs : (B + 1) * (1099511627776 + r) ≤ B * (1099511627776 + s)) (h : Nr n d v r) : Nr n d z s := by
  obtain ⟨Q, a, hQ, ha, hj⟩ := h
  refine ⟨(B + 1) * (H * Q), B * (P * a), Int.mul_pos (by omega) (Int.mul_pos hH hQ), Int.mul_pos hB (Int.mul_pos hP ha), fun j hjn => ?_⟩
  obtain ⟨h1, h2⟩ := hj j hjn
  obtain ⟨z1, z2, z3⟩ := hz j hjn
  have hdj := hd j hjn
  constructor
  · -- (B + 1) H z >= B P v
    have k1 : H * B ≤ H * z j := Int.mul_le_mul_of_nonneg_left z3 (by omega)
    have k2 : B * (P * v j) ≤ (B + 1) * (H * z j) := by
      have : B * (P * v j) ≤ B * (H * z j + H) := Int.mul_le_mul_of_nonneg_left (by omega) (by omega)
      have e : B * (H * z j + H) = B * (H * z j) + H * B := by grind
      have e' : (B + 1) * (H * z j) = B * (H * z j) + H * z j := by grind
      omega
    have k3 : B * P * (a * d j) ≤ B * P * (Q * v j) := Int.mul_le_mul_of_nonneg_left h1 (Int.le_of_lt (Int.mul_pos hB hP))
    have k4 : Q * (B * (P * v j)) ≤ Q * ((B + 1) * (H * z j)) := Int.mul_le_mul_of_nonneg_left k2 (by omega)
    have e1 : B * (P * a) * d j = B * P * (a * d j) := by grind
    have e2 : B * P * (Q * v j) = Q * (B * (P * v j)) := by grind
    have e3 : (B + 1) * (H * Q) * z j = Q * ((B + 1) * (H * z j)) := by grind
    omega
  · have k1 : (B + 1) * (1099511627776 * Q) * (H * z j) ≤ (B + 1) * (1099511627776 * Q) * (P * v j) := Int.mul_le_mul_of_nonneg_left z1 (Int.mul_nonneg (by omega) (by omega))
    have k2 : (B + 1) * P * (1099511627776 * Q * v j) ≤ (B + 1) * P * (a * (1099511627776 + r) * d j) := Int.mul_le_mul_of_nonneg_left h2 (Int.mul_nonneg (by omega) (by omega))
    have k3 : P * a * d j * ((B + 1) * (1099511627776 + r)) ≤ P * a * d j * (B * (1099511627776 + s)) := Int.mul_le_mul_of_nonneg_left hrs (Int.mul_nonneg (Int.mul_nonneg (by omega) (by omega)) (by omega))
    have e1 : 1099511627776 * ((B + 1) * (H * Q)) * z j = (B + 1) * (1099511627776 * Q) * (H * z j) := by grind
    have e2 : (B + 1) * (1099511627776 * Q) * (P * v j) = (B + 1) * P * (1099511627776 * Q * v j) := by grind
    have e3 : (B + 1) * P * (a * (1099511627776 + r) * d j) = P * a * d j * ((B + 1) * (1099511627776 + r)) := by grind
    have e4 : B * (P * a) * (1099511627776 + s) * d j = P * a * d j * (B * (1099511627776 + s)) := by grind
    omega
theorem nr_end {n : Nat} {d v : Nat → Int} {r : Int} (h0 : 0 < n) (hd0 : d 0 = 1) (hr : 0 ≤ r) (hr' : r ≤ 8388608) (h : Nr n d v r) (hv : 0 < v 0) {i : Nat} (hi : i < n) (hdi : 1 ≤ d i ∧ d i ≤ 16000) : (v i + v 0 / 2) / v 0 = d i := by
  obtain ⟨Q, a, hQ, ha, hj⟩ := h
  obtain ⟨a1, a2⟩ := hj 0 h0
  obtain ⟨b1, b2⟩ := hj i hi
  rw [hd0] at a1 a2
  have hT : 0 < 1099511627776 + r := by omega
  have k1 : 1099511627776 * v i ≤ (1099511627776 + r) * (v 0 * d i) := by
    have : (1099511627776 + r) * d i * (a * 1) ≤ (1099511627776 + r) * d i * (Q * v 0) := Int.mul_le_mul_of_nonneg_left a1 (Int.mul_nonneg (by omega) (by omega))
    have e1 : (1099511627776 + r) * d i * (a * 1) = a * (1099511627776 + r) * d i := by grind
    have e2 : (1099511627776 + r) * d i * (Q * v 0) = Q * ((1099511627776 + r) * (v 0 * d i)) := by grind
    have e3 : 1099511627776 * Q * v i = Q * (1099511627776 * v i) := by grind
    exact Int.le_of_mul_le_mul_left (show Q * (1099511627776 * v i) ≤ Q * ((1099511627776 + r) * (v 0 * d i)) by omega) hQ
  have k2 : 1099511627776 * (v 0 * d i) ≤ (1099511627776 + r) * v i := by
    have h1 : d i * (1099511627776 * Q * v 0) ≤ d i * (a * (1099511627776 + r) * 1) := Int.mul_le_mul_of_nonneg_left a2 (by omega)
    have h2 : (1099511627776 + r) * (a * d i) ≤ (1099511627776 + r) * (Q * v i) := Int.mul_le_mul_of_nonneg_left b1 (by omega)
    have e1 : d i * (1099511627776 * Q * v 0) = Q * (1099511627776 * (v 0 * d i)) := by grind
    have e2 : d i * (a * (1099511627776 + r) * 1) = (1099511627776 + r) * (a * d i) := by grind
    have e3 : (1099511627776 + r) * (Q * v i) = Q * ((1099511627776 + r) * v i) := by grind
    exact Int.le_of_mul_le_mul_left (show Q * (1099511627776 * (v 0 * d i)) ≤ Q * ((1099511627776 + r) * v i) by omega) hQ
  have hp1 : v 0 * d i ≤ 16000 * v 0 := by rw [Int.mul_comm (v 0)]; exact Int.mul_le_mul_of_nonneg_right hdi.2 (by omega)
  have hp0 : 0 < v 0 * d i := Int.mul_pos hv (by omega)
  obtain ⟨p, hp⟩ : ∃ p, p = v 0 * d i := ⟨_, rfl⟩
  rw [← hp] at k1 k2 hp1 hp0
  have r1 : r * p ≤ 8388608 * p := Int.mul_le_mul_of_nonneg_right hr' (by omega)
  have hvi : 0 < v i := by
    have : 0 < Q * v i := by have := Int.mul_pos ha (show 0 < d i by omega); omega
    exact Int.pos_of_mul_pos_right this (by omega)
  have r2 : r * v i ≤ 8388608 * v i := Int.mul_le_mul_of_nonneg_right hr' (by omega)
  have x1 : (1099511627776 + r) * p = 1099511627776 * p + r * p := by grind
  have x2 : (1099511627776 + r) * v i = 1099511627776 * v i + r * v i := by grind
  have y1 : 8 * (v i - p) ≤ v 0 := by omega
  have y2 : 8 * (p - v i) ≤ 2 * v 0 := by omega
  have z1 : p ≤ v i + v 0 / 2 := by omega
  have z2 : v i + v 0 / 2 < p + v 0 := by omega
  have hle : d i ≤ (v i + v 0 / 2) / v 0 := (Int.le_ediv_iff_mul_le hv).2 (by rw [Int.mul_comm, ← hp]; exact z1)
  have hlt : (v i + v 0 / 2) / v 0 < d i + 1 := (Int.ediv_lt_iff_lt_mul hv).2 (by rw [Int.add_mul, Int.mul_comm (d i), ← hp]; omega)
  omega
/-- the bound on how far the weights of a round are -/
def rq (c : Int) : Nat → Int
  | 0 => 17592186044416000
  | t + 1 => 4 * rq c t / 5 + c
theorem rq_pos {c : Int} (hc : 0 ≤ c) (t : Nat) : 0 ≤ rq c t := by
  induction t with
  | zero => simp only [rq]; omega
  | succ t ih => simp only [rq]; omega
theorem rq_bd {c : Int} (hc : 0 ≤ c) (t : Nat) : 5 ^ t * rq c t ≤ 4 ^ t * 17592186044416000 + 5 ^ t * (5 * c) := by
  induction t with
  | zero => simp only [rq, Int.pow_zero]; omega
  | succ t ih =>
    have h5 : (0 : Int) < 5 ^ t := Int.pow_pos (by omega)
    have h1 : 5 * rq c (t + 1) ≤ 4 * rq c t + 5 * c := by simp only [rq]; omega
    have h2 : (5 : Int) ^ t * (5 * rq c (t + 1)) ≤ 5 ^ t * (4 * rq c t + 5 * c) := Int.mul_le_mul_of_nonneg_left h1 (by omega)
    have e1 : (5 : Int) ^ (t + 1) * rq c (t + 1) = 5 ^ t * (5 * rq c (t + 1)) := by rw [Int.pow_succ]; grind
    have e2 : (5 : Int) ^ t * (4 * rq c t + 5 * c) = 4 * (5 ^ t * rq c t) + 5 ^ t * (5 * c) := by grind
    have e3 : (4 : Int) ^ (t + 1) * 17592186044416000 + 5 ^ (t + 1) * (5 * c) = 4 * (4 ^ t * 17592186044416000) + 5 * (5 ^ t * (5 * c)) := by rw [Int.pow_succ, Int.pow_succ]; grind
    omega
theorem rq_end {c K : Int} (hc : 0 ≤ c) {t : Nat} (h : (4 : Int) ^ t * 17592186044416000 < 5 ^ t * (K + 1)) : rq c t ≤ 5 * c + K := by
  have h5 : (0 : Int) < 5 ^ t := Int.pow_pos (by omega)
  have h1 := rq_bd hc t
  refine Int.not_lt.1 fun hlt => ?_
  have h2 : (5 : Int) ^ t * (5 * c + (K + 1)) ≤ 5 ^ t * rq c t := Int.mul_le_mul_of_nonneg_left (by omega) (by omega)
  rw [Int.mul_add] at h2
  omega
theorem rq_stay {c K : Int} (hK : 0 ≤ K) {t : Nat} (h : rq c t ≤ 5 * c + K) (s : Nat) : rq c (t + s) ≤ 5 * c + K := by
  induction s with
  | zero => exact h
  | succ s ih => rw [← Nat.add_assoc]; simp only [rq]; omega
theorem rq_prog : rq 2051 128 ≤ 8388608 := by
  have := rq_end (c := 2051) (K := 8000) (by omega) (t := 128) (by decide)
  omega
theorem rq_spec : rq 1099520 400 ≤ 8388608 := by
  have h := rq_end (c := 1099520) (K := 8000) (by omega) (t := 128) (by decide)
  have := rq_stay (by omega) h 272
  show rq 1099520 (128 + 272) ≤ 8388608
  omega
/-- how many labels a product has -/
def rsZ (n : Nat) (f : Nat → Nat → Nat → Int) (i j : Nat) : Int := sumZ (fun k => f i j k) n
theorem rs_len {n : Nat} {f : Nat → Nat → Nat → Int} (R : Rng n f) {i j : Nat} (hi : i < n) (hj : j < n) : rsZ n f i j = lenZ n f (dn n f j) i := by
  unfold rsZ lenZ
  exact sumZ_congr fun k hk => by
    have := R.turn2 k (dn n f j) i hk (R.dlt j hj) hi
    rw [R.dd j hj] at this
    exact this.symm
theorem rs_pos {n : Nat} {f : Nat → Nat → Nat → Int} (R : Rng n f) {i j : Nat} (hi : i < n) (hj : j < n) : 1 ≤ rsZ n f i j := by
  rw [rs_len R hi hj]; exact len_pos R (R.dlt j hj) hi
end Go.Proofs.Ytmdmojklagmmiaa
