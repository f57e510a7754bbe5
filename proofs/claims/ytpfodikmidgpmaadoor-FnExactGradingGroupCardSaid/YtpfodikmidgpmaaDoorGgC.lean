/- The table of the grading group: of the program. -/
import Derived.Test.YtpfodikmidgpmaaDoorGgB
namespace Go.Proofs.YtpfodikmidgpmaaDoor
open Go.RowKit
set_option linter.unusedSimpArgs false
set_option linter.unusedVariables false
theorem ctz_least {x : Nat} (h0 : x ≠ 0) (hx : x < 18446744073709551616) : x.testBit (Lib.ctz 64 x) = true ∧ ∀ j, j < Lib.ctz 64 x → x.testBit j = false := by
  obtain ⟨m, hm, hk⟩ := Lib.ctzFrom_spec 64 x (by omega) hx
  have e : Lib.ctz 64 x = Lib.ctzFrom 64 x := by simp [Lib.ctz, h0]
  rw [e]
  generalize Lib.ctzFrom 64 x = k at *
  subst hm
  constructor
  · rw [Nat.testBit_two_pow_mul]
    simp [Nat.testBit_zero]
  · intro j hj
    rw [Nat.testBit_two_pow_mul, decide_eq_false (by omega), Bool.false_and]
theorem least_nt {P : Nat → Prop} : ∀ m, P m → ∃ k, P k ∧ ∀ j, j < k → ¬ P j := by
  intro m
  induction m using Nat.strongRecOn with
  | _ m ih =>
    intro h
    by_cases c : ∃ j, j < m ∧ P j
    · obtain ⟨j, hj, hp⟩ := c; exact ih j hj hp
    · exact ⟨m, h, fun j hj hp => c ⟨j, hj, hp⟩⟩
/-- the least label in a product -/
def lst (n : Nat) (f : Nat → Nat → Nat → Int) (i j : Nat) : Nat := ff (fun k => f i j k != 0) n
theorem prod_some {n : Nat} {f : Nat → Nat → Nat → Int} (R : Rng n f) {i j : Nat} (hi : i < n) (hj : j < n) : ∃ k, k < n ∧ f i j k ≠ 0 := by
  refine Classical.byContradiction fun hc => ?_
  have hz : ∀ k, k < n → f i j k = 0 := fun k hk => Classical.byContradiction fun h => hc ⟨k, hk, h⟩
  have hd := R.dlt i hi
  have hpos : ∀ x y z, x < n → y < n → z < n → 0 ≤ f x y z := fun x y z hx hy hz => (R.num x y z hx hy hz).1
  have h1 : f (dn n f i) i 0 * f 0 j j ≤ s1 n f (dn n f i) i j j := sumZ_term (g := fun m => f (dn n f i) i m * f m j j) (fun m hm => Int.mul_nonneg (hpos _ _ _ hd hi hm) (hpos _ _ _ hm hj hj)) R.h0
  have h2 : f (dn n f i) i 0 = 1 := by have := R.d1 _ hd; rw [R.dd i hi] at this; exact this
  have h3 : f 0 j j = 1 := by rw [R.unitl j j hj hj, if_pos rfl]
  rw [h2, h3, R.assoc _ i j j hd hi hj hj] at h1
  have h4 : s2 n f (dn n f i) i j j = 0 := by
    show sumZ (fun m => f i j m * f (dn n f i) m j) n = 0
    rw [sumZ_congr (h := fun _ => 0) (fun m hm => by rw [hz m hm, Int.zero_mul]), sumZ_null]
  omega
theorem lst_is {n : Nat} {f : Nat → Nat → Nat → Int} (R : Rng n f) {i j : Nat} (hi : i < n) (hj : j < n) : lst n f i j < n ∧ f i j (lst n f i j) ≠ 0 ∧ ∀ k, k < lst n f i j → f i j k = 0 := by
  obtain ⟨k0, hk0, hf0⟩ := prod_some R hi hj
  obtain ⟨k, hk, hmin⟩ := least_nt (P := fun k => k < n ∧ f i j k ≠ 0) k0 ⟨hk0, hf0⟩
  have e : lst n f i j = k := ff_hit hk.1 (by simp [hk.2]) fun q hq => by
    have := hmin q hq
    have hq0 : f i j q = 0 := Classical.byContradiction fun h => this ⟨by omega, h⟩
    simp [hq0]
  rw [e]
  exact ⟨hk.1, hk.2, fun q hq => Classical.byContradiction fun h => hmin q hq ⟨by omega, h⟩⟩
theorem lst_occ {n : Nat} {f : Nat → Nat → Nat → Int} (R : Rng n f) {i j : Nat} (hi : i < n) (hj : j < n) : occ n f i j ≠ 0 ∧ occ n f i j < 65536 ∧ Lib.ctz 64 (occ n f i j) = lst n f i j := by
  obtain ⟨h1, h2, h3⟩ := lst_is R hi hj
  have hb : (occ n f i j).testBit (lst n f i j) = true := occ_bit.2 ⟨h1, h2⟩
  have h0 : occ n f i j ≠ 0 := fun e => by rw [e, Nat.zero_testBit] at hb; cases hb
  have hl : occ n f i j < 65536 := Nat.lt_of_lt_of_le (occ_lt n f i j) (pow_le16 R.h16)
  obtain ⟨c1, c2⟩ := ctz_least h0 (by omega)
  refine ⟨h0, hl, ?_⟩
  have hc := occ_bit.1 c1
  rcases Nat.lt_trichotomy (Lib.ctz 64 (occ n f i j)) (lst n f i j) with h | h | h
  · exact absurd (h3 _ h) hc.2
  · exact h
  · have := c2 _ h; rw [hb] at this; cases this
/-- the number of components -/
noncomputable def cpM (n : Nat) (f : Nat → Nat → Nat → Int) : Nat := (csI n f (adV n f) n).2.1
/-- the first label of a component -/
noncomputable def rpL (n : Nat) (f : Nat → Nat → Nat → Int) (a : Nat) : Nat := ff (fun j => decide (csN n f (adV n f) j = (a : Int))) n
/-- the table of the grading group -/
noncomputable def ggF (n : Nat) (f : Nat → Nat → Nat → Int) (a b : Nat) : Int := csN n f (adV n f) (lst n f (rpL n f a) (rpL n f b))
theorem adV_sbr {n : Nat} {f : Nat → Nat → Nat → Int} (R : Rng n f) : Sbr n f (adV n f) := by
  have h : IsGen n f (adB n f (allS n)) (bset (fun k => ∀ T, Sbr n f T → subS (adB n f (allS n)) T → T.testBit k = true) n) :=
    ⟨⟨bset_lt _ _, (bset_bit _ _ _).2 ⟨R.h0, fun T hT _ => hT.2.1⟩, fun i j k hi hj hk bi bj hf => (bset_bit _ _ _).2 ⟨hk, fun T hT hs => hT.2.2 i j k hi hj hk (((bset_bit _ _ _).1 bi).2 T hT hs) (((bset_bit _ _ _).1 bj).2 T hT hs) hf⟩⟩, fun k hk => (bset_bit _ _ _).2 ⟨((adB_bit R (allS_lt n)).1 hk).1, fun T _ hs' => hs' k hk⟩, fun T hT hs' k hk => ((bset_bit _ _ _).1 hk).2 T hT hs'⟩
  have e : _ = adV n f := gen_eq h
  rw [← e]; exact h.1
theorem cp_grow {n : Nat} {f : Nat → Nat → Nat → Int} (R : Rng n f) : Grow n (csN n f (adV n f)) (fun i => (csI n f (adV n f) i).2.1) := cs_grow R (adV_sbr R)
theorem Grow.max {n : Nat} {N : Nat → Int} {c : Nat → Nat} (h : Grow n N c) : ∀ k, k < n → mxZ N (k + 1) + 1 = c (k + 1) := by
  intro k
  induction k with
  | zero =>
    intro hk
    have h1 := h.step 0 hk
    have h2 := h.zero
    have : mxZ N 1 = N 0 := by simp [mxZ]
    rw [this]
    omega
  | succ k ih =>
    intro hk
    have h1 := ih (by omega)
    have h2 := (h.step (k + 1) hk).2
    show (if mxZ N (k + 1) < N (k + 1) then N (k + 1) else mxZ N (k + 1)) + 1 = _
    split <;> omega
theorem cp_max {n : Nat} {f : Nat → Nat → Nat → Int} (R : Rng n f) : mxZ (csN n f (adV n f)) n + 1 = (cpM n f : Nat) ∧ cpM n f ≤ n ∧ 0 < cpM n f := by
  have g := cp_grow R
  obtain ⟨k, hk⟩ : ∃ k, n = k + 1 := ⟨n - 1, by have := R.h0; omega⟩
  have h1 := g.max k (by omega)
  rw [← hk] at h1
  have hb : ∀ i, i ≤ n → (csI n f (adV n f) i).2.1 ≤ i := fun i _ => by
    have := (csSt_bd n f (adV n f) (List.range i)).1
    rw [List.length_range] at this
    exact this
  have hpos : 0 < cpM n f := by
    have h3 := (g.step 0 R.h0)
    have h4 := g.zero
    have h5 := g.mono (show 1 ≤ n from R.h0) (Nat.le_refl n)
    unfold cpM
    rcases h3.2 with ⟨h6, h7⟩ | ⟨h6, h7⟩
    · rw [h4] at h6; omega
    · have : (csI n f (adV n f) (0 + 1)).2.1 = (csI n f (adV n f) 0).2.1 + 1 := h7
      simp only [Nat.zero_add] at this
      omega
  exact ⟨h1, hb n (Nat.le_refl n), hpos⟩
theorem rp_is {n : Nat} {f : Nat → Nat → Nat → Int} (R : Rng n f) {a : Nat} (ha : a < cpM n f) : rpL n f a < n ∧ csN n f (adV n f) (rpL n f a) = (a : Int) ∧ (csI n f (adV n f) (rpL n f a)).2.1 = a ∧ ∀ j, j < rpL n f a → csN n f (adV n f) j ≠ (a : Int) := by
  obtain ⟨i, hi, h1, h2, h3⟩ := (cp_grow R).first n (Nat.le_refl n) ha
  have e : rpL n f a = i := ff_hit hi (by simp [h1]) fun j hj => by simp [h3 j hj]
  rw [e]
  exact ⟨hi, h1, h2, h3⟩
theorem gg_at {n : Nat} {f : Nat → Nat → Nat → Int} (R : Rng n f) {a b : Nat} (ha : a < cpM n f) (hb : b < cpM n f) : lst n f (rpL n f a) (rpL n f b) < n := (lst_is R (rp_is R ha).1 (rp_is R hb).1).1
end Go.Proofs.YtpfodikmidgpmaaDoor
