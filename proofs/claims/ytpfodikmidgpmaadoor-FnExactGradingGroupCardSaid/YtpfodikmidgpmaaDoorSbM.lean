/- Sets of labels that are closed under products have the duals of their labels. -/
import Derived.Test.YtpfodikmidgpmaaDoorDmM
namespace Go.Proofs.YtpfodikmidgpmaaDoor
set_option linter.unusedSimpArgs false
set_option linter.unusedVariables false
/-- u, multiplied k times by a from the left -/
def itr (n : Nat) (f : Nat → Nat → Nat → Int) (a : Nat) (u : Nat → Int) : Nat → Nat → Int
  | 0, j => u j
  | k + 1, j => sumZ (fun m => itr n f a u k m * f a m j) n
def one1 (x y : Nat) : Int := if x = y then 1 else 0
theorem itr_nn {n : Nat} {f : Nat → Nat → Nat → Int} (R : Rng n f) {a : Nat} (ha : a < n) {u : Nat → Int} (hu : ∀ j, j < n → 0 ≤ u j) (k : Nat) : ∀ j, j < n → 0 ≤ itr n f a u k j := by
  induction k with
  | zero => exact hu
  | succ k ih => exact fun j hj => sumZ_pos fun m hm => Int.mul_nonneg (ih m hm) (R.num a m j ha hm hj).1
theorem one1_nn (x : Nat) (j : Nat) : 0 ≤ one1 x j := by unfold one1; split <;> omega
theorem itr_add (n : Nat) (f : Nat → Nat → Nat → Int) (a : Nat) (u : Nat → Int) (r s : Nat) : itr n f a u (r + s) = itr n f a (itr n f a u r) s := by
  induction s with
  | zero => rfl
  | succ s ih =>
    funext j
    show sumZ (fun m => itr n f a u (r + s) m * f a m j) n = sumZ (fun m => itr n f a (itr n f a u r) s m * f a m j) n
    rw [ih]
theorem sumZ_mulr (c : Int) (g : Nat → Int) (n : Nat) : sumZ g n * c = sumZ (fun i => g i * c) n := by
  rw [Int.mul_comm, ← sumZ_mul]
  exact sumZ_congr fun i _ => Int.mul_comm _ _
theorem itr_lin {n : Nat} {f : Nat → Nat → Nat → Int} {a : Nat} (u : Nat → Int) (k : Nat) : ∀ y, y < n → itr n f a u k y = sumZ (fun j => u j * itr n f a (one1 j) k y) n := by
  induction k with
  | zero =>
    intro y hy
    rw [sumZ_only (i := y) hy fun m _ hne => by show u m * one1 m y = 0; unfold one1; rw [if_neg hne]; simp]
    show u y = u y * one1 y y
    unfold one1; simp
  | succ k ih =>
    intro y hy
    show sumZ (fun m => itr n f a u k m * f a m y) n = sumZ (fun j => u j * sumZ (fun m => itr n f a (one1 j) k m * f a m y) n) n
    rw [sumZ_congr (h := fun m => sumZ (fun j => u j * (itr n f a (one1 j) k m * f a m y)) n) fun m hm => by
      rw [ih m hm, sumZ_mulr]
      exact sumZ_congr fun j _ => Int.mul_assoc _ _ _]
    rw [sumZ_swap]
    exact sumZ_congr fun j _ => by rw [sumZ_mul]
/-- the powers of a -/
def pw (n : Nat) (f : Nat → Nat → Nat → Int) (a : Nat) : Nat → Nat → Int := itr n f a (one1 0)
theorem itr_one {n : Nat} {f : Nat → Nat → Nat → Int} (R : Rng n f) {a x : Nat} (ha : a < n) (hx : x < n) (k : Nat) : ∀ y, y < n → itr n f a (one1 x) k y = sumZ (fun i => pw n f a k i * f i x y) n := by
  induction k with
  | zero =>
    intro y hy
    rw [sumZ_only (i := 0) R.h0 fun m _ hne => by show one1 0 m * _ = 0; unfold one1; rw [if_neg (Ne.symm hne)]; simp]
    show one1 x y = one1 0 0 * f 0 x y
    rw [R.unitl x y hx hy]
    unfold one1; simp
  | succ k ih =>
    intro y hy
    show sumZ (fun m => itr n f a (one1 x) k m * f a m y) n = sumZ (fun j => sumZ (fun i => pw n f a k i * f a i j) n * f j x y) n
    have e1 : sumZ (fun m => itr n f a (one1 x) k m * f a m y) n = sumZ (fun i => sumZ (fun m => pw n f a k i * (f i x m * f a m y)) n) n := by
      rw [← sumZ_swap]
      refine sumZ_congr fun m hm => ?_
      rw [ih m hm, sumZ_mulr]
      exact sumZ_congr fun j _ => Int.mul_assoc _ _ _
    have e2 : sumZ (fun j => sumZ (fun i => pw n f a k i * f a i j) n * f j x y) n = sumZ (fun i => sumZ (fun j => pw n f a k i * (f a i j * f j x y)) n) n := by
      rw [← sumZ_swap]
      refine sumZ_congr fun j hj => ?_
      rw [sumZ_mulr]
      exact sumZ_congr fun i _ => Int.mul_assoc _ _ _
    rw [e1, e2]
    refine sumZ_congr fun i hi => ?_
    rw [sumZ_mul, sumZ_mul]
    have := R.assoc a i x y ha hi hx hy
    unfold s1 s2 at this
    rw [this]
theorem pw_nn {n : Nat} {f : Nat → Nat → Nat → Int} (R : Rng n f) {a : Nat} (ha : a < n) (k : Nat) : ∀ j, j < n → 0 ≤ pw n f a k j := itr_nn R ha (fun j _ => one1_nn 0 j) k
def tot (n : Nat) (f : Nat → Nat → Nat → Int) (a k : Nat) : Int := sumZ (pw n f a k) n
theorem tot_pos {n : Nat} {f : Nat → Nat → Nat → Int} (R : Rng n f) {a : Nat} (ha : a < n) (k : Nat) : 1 ≤ tot n f a k := by
  induction k with
  | zero =>
    unfold tot
    rw [sumZ_only (i := 0) R.h0 fun m _ hne => by show one1 0 m = 0; unfold one1; rw [if_neg (Ne.symm hne)]]
    exact Int.le_refl _
  | succ k ih =>
    have e : tot n f a (k + 1) = sumZ (fun m => pw n f a k m * rsZ n f a m) n := by
      show sumZ (fun j => sumZ (fun m => pw n f a k m * f a m j) n) n = _
      rw [sumZ_swap]
      exact sumZ_congr fun m _ => by unfold rsZ; rw [sumZ_mul]
    rw [e]
    refine Int.le_trans ih ?_
    unfold tot
    refine sumZ_mono fun m hm => ?_
    have h1 := pw_nn R ha k m hm
    have h2 := rs_pos R ha hm
    have := Int.mul_le_mul_of_nonneg_left h2 h1
    omega
theorem rs_le {n : Nat} {f : Nat → Nat → Nat → Int} (R : Rng n f) {i j : Nat} (hi : i < n) (hj : j < n) : rsZ n f i j ≤ 16000 := by
  have h := sumZ_mono (g := fun k => f i j k) (h := fun _ => 1000) (n := n) fun k hk => (R.num i j k hi hj hk).2
  rw [sumZ_const] at h
  have := R.h16
  unfold rsZ
  omega
/-- the labels of a power times x are at most 16000 times those of the power -/
theorem itr_tot {n : Nat} {f : Nat → Nat → Nat → Int} (R : Rng n f) {a x : Nat} (ha : a < n) (hx : x < n) (k : Nat) : sumZ (itr n f a (one1 x) k) n ≤ 16000 * tot n f a k := by
  rw [sumZ_congr (itr_one R ha hx k), sumZ_swap]
  unfold tot
  rw [← sumZ_mul]
  refine sumZ_mono fun i hi => ?_
  rw [sumZ_mul, Int.mul_comm 16000]
  exact Int.mul_le_mul_of_nonneg_left (rs_le R hi hx) (pw_nn R ha k i hi)
theorem tot_add {n : Nat} {f : Nat → Nat → Nat → Int} (R : Rng n f) {a : Nat} (ha : a < n) (r s : Nat) : tot n f a (r + s) ≤ 16000 * (tot n f a r * tot n f a s) := by
  have e : tot n f a (r + s) = sumZ (fun j => pw n f a r j * sumZ (itr n f a (one1 j) s) n) n := by
    unfold tot
    rw [sumZ_congr (h := fun y => sumZ (fun j => pw n f a r j * itr n f a (one1 j) s y) n) fun y hy => by
      show itr n f a (one1 0) (r + s) y = _
      rw [itr_add, itr_lin _ s y hy]; rfl]
    rw [sumZ_swap]
    exact sumZ_congr fun j _ => by rw [sumZ_mul]
  rw [e]
  have h := sumZ_mono (g := fun j => pw n f a r j * sumZ (itr n f a (one1 j) s) n) (h := fun j => (16000 * tot n f a s) * pw n f a r j) (n := n) fun j hj => by
    show pw n f a r j * _ ≤ _
    rw [Int.mul_comm (16000 * tot n f a s)]
    exact Int.mul_le_mul_of_nonneg_left (itr_tot R ha hj s) (pw_nn R ha r j hj)
  rw [sumZ_mul] at h
  refine Int.le_trans h (Int.le_of_eq ?_)
  show 16000 * tot n f a s * tot n f a r = _
  rw [Int.mul_comm (tot n f a r), Int.mul_assoc]
/-- no path comes back to 0: each path from x is at 0 once at most -/
theorem itr_low {n : Nat} {f : Nat → Nat → Nat → Int} (R : Rng n f) {a x : Nat} (ha : a < n) (hno : ∀ s, 1 ≤ s → pw n f a s 0 = 0) (k : Nat) : ∀ y, y < n → sumZ (fun s => itr n f a (one1 x) s 0 * pw n f a (k - s) y) (k + 1) ≤ itr n f a (one1 x) k y := by
  induction k with
  | zero =>
    intro y hy
    show 0 + itr n f a (one1 x) 0 0 * pw n f a 0 y ≤ itr n f a (one1 x) 0 y
    show 0 + one1 x 0 * one1 0 y ≤ one1 x y
    unfold one1
    by_cases h1 : x = 0
    · subst h1; by_cases h2 : 0 = y <;> simp [h2]
    · simp [h1]; split <;> omega
  | succ k ih =>
    intro y hy
    show sumZ (fun s => itr n f a (one1 x) s 0 * pw n f a (k + 1 - s) y) (k + 1) + itr n f a (one1 x) (k + 1) 0 * pw n f a (k + 1 - (k + 1)) y ≤ _
    rw [Nat.sub_self]
    by_cases h0 : y = 0
    · subst h0
      rw [sumZ_congr (h := fun _ => 0) fun s hs => by rw [hno (k + 1 - s) (by omega)]; simp, sumZ_null]
      show 0 + itr n f a (one1 x) (k + 1) 0 * one1 0 0 ≤ _
      unfold one1; simp
    · rw [show pw n f a 0 y = 0 from by show one1 0 y = 0; unfold one1; rw [if_neg (Ne.symm h0)], Int.mul_zero, Int.add_zero]
      rw [sumZ_congr (h := fun s => sumZ (fun m => itr n f a (one1 x) s 0 * pw n f a (k - s) m * f a m y) n) fun s hs => by
        rw [show k + 1 - s = (k - s) + 1 by omega]
        show _ * sumZ (fun m => pw n f a (k - s) m * f a m y) n = _
        rw [← sumZ_mul]
        exact sumZ_congr fun m _ => (Int.mul_assoc _ _ _).symm]
      rw [sumZ_swap]
      refine sumZ_mono fun m hm => ?_
      rw [← sumZ_mulr]
      exact Int.mul_le_mul_of_nonneg_right (ih m hm) (R.num a m y ha hm hy).1
theorem back_tot {n : Nat} {f : Nat → Nat → Nat → Int} (R : Rng n f) {a : Nat} (ha : a < n) (s : Nat) : sumZ (fun x => itr n f a (one1 x) s 0) n = tot n f a s := by
  rw [sumZ_congr (h := fun x => sumZ (fun i => pw n f a s i * f i x 0) n) fun x hx => itr_one R ha hx s 0 R.h0, sumZ_swap]
  unfold tot
  refine sumZ_congr fun i hi => ?_
  rw [sumZ_mul, sumZ_only (i := dn n f i) (R.dlt i hi) fun k hk hne => R.d0 i k hi hk hne, R.d1 i hi]
  omega
theorem back_once {n : Nat} {f : Nat → Nat → Nat → Int} (R : Rng n f) {a : Nat} (ha : a < n) : ∃ s, 1 ≤ s ∧ 0 < pw n f a s 0 := by
  refine Classical.byContradiction fun hc => ?_
  have hno : ∀ s, 1 ≤ s → pw n f a s 0 = 0 := fun s hs => by
    have h1 := pw_nn R ha s 0 R.h0
    have h2 : ¬ 0 < pw n f a s 0 := fun h => hc ⟨s, hs, h⟩
    omega
  -- the paths of length k from all labels
  have key : ∀ k, ((k + 1 : Nat) : Int) * tot n f a k ≤ 16000 * (16 * (16000 * tot n f a k)) := fun k => by
    have up : sumZ (fun x => sumZ (itr n f a (one1 x) k) n) n ≤ n * (16000 * tot n f a k) := by
      have h := sumZ_mono (g := fun x => sumZ (itr n f a (one1 x) k) n) (h := fun _ => 16000 * tot n f a k) (n := n) fun x hx => itr_tot R ha hx k
      rw [sumZ_const] at h
      exact h
    have lo : sumZ (fun s => tot n f a s * tot n f a (k - s)) (k + 1) ≤ sumZ (fun x => sumZ (itr n f a (one1 x) k) n) n := by
      have h := sumZ_mono (g := fun x => sumZ (fun y => sumZ (fun s => itr n f a (one1 x) s 0 * pw n f a (k - s) y) (k + 1)) n) (h := fun x => sumZ (itr n f a (one1 x) k) n) (n := n) fun x _ => sumZ_mono fun y hy => itr_low R ha hno k y hy
      refine Int.le_trans (Int.le_of_eq ?_) h
      rw [sumZ_congr (n := n) (h := fun x => sumZ (fun s => itr n f a (one1 x) s 0 * tot n f a (k - s)) (k + 1)) fun x _ => by
        rw [sumZ_swap]
        exact sumZ_congr fun s _ => by rw [sumZ_mul]; rfl]
      rw [sumZ_swap]
      exact sumZ_congr fun s _ => by rw [← sumZ_mulr, back_tot R ha s]
    have lo2 : ((k + 1 : Nat) : Int) * tot n f a k ≤ 16000 * sumZ (fun s => tot n f a s * tot n f a (k - s)) (k + 1) := by
      rw [← sumZ_const, ← sumZ_mul]
      refine sumZ_mono fun s hs => ?_
      have := tot_add R ha s (k - s)
      rwa [show s + (k - s) = k by omega] at this
    have h16 : (n : Int) * (16000 * tot n f a k) ≤ 16 * (16000 * tot n f a k) := Int.mul_le_mul_of_nonneg_right (by have := R.h16; omega) (by have := tot_pos R ha k; omega)
    omega
  have h := key 4096000000
  have hp := tot_pos R ha 4096000000
  have e : (16000 * (16 * (16000 * tot n f a 4096000000)) : Int) = 4096000000 * tot n f a 4096000000 := by omega
  rw [e, show ((4096000000 + 1 : Nat) : Int) = 4096000001 from rfl] at h
  omega
/-- a set that has what occurs in products of its labels -/
def ClsP (n : Nat) (f : Nat → Nat → Nat → Int) (S : Nat → Prop) : Prop := ∀ i j k, i < n → j < n → k < n → S i → S j → f i j k ≠ 0 → S k
theorem dn_zero {n : Nat} {f : Nat → Nat → Nat → Int} (R : Rng n f) : dn n f 0 = 0 := by
  have h := R.d1 0 R.h0
  rw [R.unitl _ _ (R.dlt 0 R.h0) R.h0] at h
  split at h
  · assumption
  · cases h
theorem cls_dual {n : Nat} {f : Nat → Nat → Nat → Int} (R : Rng n f) {S : Nat → Prop} (hS : ClsP n f S) {a : Nat} (ha : a < n) (h : S a) : S (dn n f a) := by
  have hin : ∀ s j, j < n → 0 < pw n f a (s + 1) j → S j := by
    intro s
    induction s with
    | zero =>
      intro j hj hp
      have e : pw n f a 1 j = f a 0 j := by
        show sumZ (fun m => one1 0 m * f a m j) n = _
        rw [sumZ_only (i := 0) R.h0 fun m _ hne => by unfold one1; rw [if_neg (Ne.symm hne)]; simp]
        unfold one1; simp
      rw [e, R.unitr a j ha hj] at hp
      split at hp
      · rename_i e'; rw [← e']; exact h
      · omega
    | succ s ih =>
      intro j hj hp
      obtain ⟨m, hm, hp2⟩ := sumZ_some (g := fun m => pw n f a (s + 1) m * f a m j) (fun m hm => Int.mul_nonneg (pw_nn R ha _ m hm) (R.num a m j ha hm hj).1) hp
      have h1 := pw_nn R ha (s + 1) m hm
      have hm1 : 0 < pw n f a (s + 1) m := by
        rcases Int.lt_or_eq_of_le h1 with h1 | h1
        · exact h1
        · rw [← h1, Int.zero_mul] at hp2; omega
      exact hS a m j ha hm hj h (ih m hm hm1) (fun e => by rw [e, Int.mul_zero] at hp2; omega)
  obtain ⟨s, hs, hp⟩ := back_once R ha
  obtain ⟨r, rfl⟩ : ∃ r, s = r + 1 := ⟨s - 1, by omega⟩
  obtain ⟨m, hm, hp2⟩ := sumZ_some (g := fun m => pw n f a r m * f a m 0) (fun m hm => Int.mul_nonneg (pw_nn R ha _ m hm) (R.num a m 0 ha hm R.h0).1) hp
  have h1 := pw_nn R ha r m hm
  have hm1 : 0 < pw n f a r m := by
    rcases Int.lt_or_eq_of_le h1 with h1 | h1
    · exact h1
    · rw [← h1, Int.zero_mul] at hp2; omega
  have hd : m = dn n f a := Classical.byContradiction fun hne => by
    rw [R.d0 a m ha hm hne, Int.mul_zero] at hp2; omega
  subst hd
  cases r with
  | succ r => exact hin r _ hm hm1
  | zero =>
    have h0 : dn n f a = 0 := by
      have h2 : (0 : Int) < one1 0 (dn n f a) := hm1
      unfold one1 at h2
      split at h2
      · rename_i e; exact e.symm
      · omega
    have : a = 0 := by
      have := R.dd a ha
      rw [h0, dn_zero R] at this
      exact this.symm
    rw [h0, ← this]; exact h
end Go.Proofs.YtpfodikmidgpmaaDoor
