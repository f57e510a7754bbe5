/- Arithmetic modulo the prime 55441, without Go: powers of 38, logarithms, square roots, orders. -/
namespace Go.Proofs.Ytmdmojklagmmiaa.NT
theorem g_one : 38 ^ 55440 % 55441 = 1 := by decide +kernel
theorem g_2 : 38 ^ 27720 % 55441 ≠ 1 := by decide +kernel
theorem g_3 : 38 ^ 18480 % 55441 ≠ 1 := by decide +kernel
theorem g_5 : 38 ^ 11088 % 55441 ≠ 1 := by decide +kernel
theorem g_7 : 38 ^ 7920 % 55441 ≠ 1 := by decide +kernel
theorem g_11 : 38 ^ 5040 % 55441 ≠ 1 := by decide +kernel

/-- powers by remainders -/
theorem pow_add_mod (a i j m : Nat) : a ^ (i + j) % m = (a ^ i % m) * (a ^ j % m) % m := by
  rw [Nat.pow_add, Nat.mul_mod]
theorem pow_mul_one (a n m k : Nat) (h : a ^ n % m = 1) : a ^ (n * k) % m = 1 := by
  have h1 : 1 < m ∨ m = 0 ∨ m = 1 := by omega
  rw [Nat.pow_mul, Nat.pow_mod, h, Nat.one_pow]
  rcases h1 with h1 | h1 | h1
  · exact Nat.mod_eq_of_lt h1
  · subst h1; simp
  · subst h1; omega
theorem g_ne_zero (i : Nat) : 38 ^ i % 55441 ≠ 0 := by
  intro h
  have h1 := pow_mul_one 38 55440 55441 (i + 1) g_one
  have e : 55440 * (i + 1) = i + (55440 * (i + 1) - i) := by omega
  rw [e, pow_add_mod, h, Nat.zero_mul] at h1
  simp at h1
theorem g_cancel (i x y : Nat) (h : 38 ^ i * x % 55441 = 38 ^ i * y % 55441) : x % 55441 = y % 55441 := by
  have e : 55440 * (i + 1) = (55440 * (i + 1) - i) + i := by omega
  have h1 := pow_mul_one 38 55440 55441 (i + 1) g_one
  rw [e, Nat.pow_add] at h1
  have k : ∀ z, z % 55441 = 38 ^ (55440 * (i + 1) - i) * (38 ^ i * z) % 55441 := by
    intro z
    rw [← Nat.mul_assoc, Nat.mul_mod, h1]
    simp
  rw [k x, k y, Nat.mul_mod, h, ← Nat.mul_mod]
theorem x_mod (x a b : Nat) (ha : x ^ a % 55441 = 1) (hb : x ^ b % 55441 = 1) : x ^ (a % b) % 55441 = 1 := by
  have e : a = a % b + b * (a / b) := (Nat.mod_add_div a b).symm
  have h1 := pow_mul_one x b 55441 (a / b) hb
  rw [e, pow_add_mod, h1] at ha
  simpa using ha
theorem x_gcd (x a b : Nat) : x ^ a % 55441 = 1 → x ^ b % 55441 = 1 → x ^ (Nat.gcd a b) % 55441 = 1 := by
  induction a, b using Nat.gcd.induction with
  | H0 n => intro _ h; simpa using h
  | H1 m n hm ih =>
    intro ha hb
    rw [Nat.gcd_rec]
    exact ih (x_mod x n m hb ha) ha
theorem cop (m q : Nat) (hq : q = 2 ∨ q = 3 ∨ q = 5 ∨ q = 7 ∨ q = 11) (h : m % q ≠ 0) : Nat.Coprime m q := by
  have hd : Nat.gcd m q ∣ q := Nat.gcd_dvd_right m q
  have hm : Nat.gcd m q ∣ m := Nat.gcd_dvd_left m q
  have hp : Nat.gcd m q = 1 ∨ Nat.gcd m q = q := by
    generalize Nat.gcd m q = e at *
    have he : e ≤ q := Nat.le_of_dvd (by omega) hd
    have hx := Nat.mod_eq_zero_of_dvd hd
    rcases hq with rfl | rfl | rfl | rfl | rfl
    · have : ∀ e, e ≤ 2 → 2 % e = 0 → e = 1 ∨ e = 2 := by decide
      exact this e he hx
    · have : ∀ e, e ≤ 3 → 3 % e = 0 → e = 1 ∨ e = 3 := by decide
      exact this e he hx
    · have : ∀ e, e ≤ 5 → 5 % e = 0 → e = 1 ∨ e = 5 := by decide
      exact this e he hx
    · have : ∀ e, e ≤ 7 → 7 % e = 0 → e = 1 ∨ e = 7 := by decide
      exact this e he hx
    · have : ∀ e, e ≤ 11 → 11 % e = 0 → e = 1 ∨ e = 11 := by decide
      exact this e he hx
  rcases hp with hp | hp
  · exact hp
  · rw [hp] at hm
    exact absurd (Nat.mod_eq_zero_of_dvd hm) h
/-- a divisor of 55440 other than 1 has one of five primes -/
theorem div_one (m : Nat) (h : m ∣ 55440) (h2 : m % 2 ≠ 0) (h3 : m % 3 ≠ 0) (h5 : m % 5 ≠ 0) (h7 : m % 7 ≠ 0) (h11 : m % 11 ≠ 0) : m = 1 := by
  have c2 := cop m 2 (by omega) h2
  have c3 := cop m 3 (by omega) h3
  have c5 := cop m 5 (by omega) h5
  have c7 := cop m 7 (by omega) h7
  have c11 := cop m 11 (by omega) h11
  have e1 : 55440 = 2 * (2 * (2 * (2 * (3 * (3 * (5 * (7 * (11 * 1)))))))) := by decide
  have d := h
  rw [e1] at d
  have d := c2.dvd_of_dvd_mul_left d
  have d := c2.dvd_of_dvd_mul_left d
  have d := c2.dvd_of_dvd_mul_left d
  have d := c2.dvd_of_dvd_mul_left d
  have d := c3.dvd_of_dvd_mul_left d
  have d := c3.dvd_of_dvd_mul_left d
  have d := c5.dvd_of_dvd_mul_left d
  have d := c7.dvd_of_dvd_mul_left d
  have d := c11.dvd_of_dvd_mul_left d
  exact Nat.dvd_one.1 d
/-- a divisor of 55440 is 55440 or divides a quotient by a prime -/
theorem div_cases (e : Nat) (h : e ∣ 55440) : e = 55440 ∨ e ∣ 27720 ∨ e ∣ 18480 ∨ e ∣ 11088 ∨ e ∣ 7920 ∨ e ∣ 5040 := by
  obtain ⟨m, hm⟩ := h
  by_cases h2 : m % 2 = 0
  · right; left; exact ⟨m / 2, by have : m = 2 * (m / 2) := by omega
                                  rw [this, Nat.mul_left_comm] at hm; omega⟩
  by_cases h3 : m % 3 = 0
  · right; right; left; exact ⟨m / 3, by have : m = 3 * (m / 3) := by omega
                                         rw [this, Nat.mul_left_comm] at hm; omega⟩
  by_cases h5 : m % 5 = 0
  · right; right; right; left; exact ⟨m / 5, by have : m = 5 * (m / 5) := by omega
                                                rw [this, Nat.mul_left_comm] at hm; omega⟩
  by_cases h7 : m % 7 = 0
  · right; right; right; right; left; exact ⟨m / 7, by have : m = 7 * (m / 7) := by omega
                                                       rw [this, Nat.mul_left_comm] at hm; omega⟩
  by_cases h11 : m % 11 = 0
  · right; right; right; right; right; exact ⟨m / 11, by have : m = 11 * (m / 11) := by omega
                                                         rw [this, Nat.mul_left_comm] at hm; omega⟩
  left
  have := div_one m ⟨e, by rw [Nat.mul_comm m e]; exact hm⟩ h2 h3 h5 h7 h11
  rw [this] at hm; omega
theorem g_dvd (e d : Nat) (h : 38 ^ e % 55441 = 1) (hd : e ∣ d) : 38 ^ d % 55441 = 1 := by
  obtain ⟨k, rfl⟩ := hd
  exact pow_mul_one 38 e 55441 k h
/-- the order of 38 is 55440 -/
theorem g_order (d : Nat) (h : 38 ^ d % 55441 = 1) : 55440 ∣ d := by
  have hg := x_gcd 38 d 55440 h g_one
  have hd := Nat.gcd_dvd_right d 55440
  have hl := Nat.gcd_dvd_left d 55440
  rcases div_cases _ hd with e | e | e | e | e | e
  · rw [e] at hl; exact hl
  · exact absurd (g_dvd _ _ hg e) g_2
  · exact absurd (g_dvd _ _ hg e) g_3
  · exact absurd (g_dvd _ _ hg e) g_5
  · exact absurd (g_dvd _ _ hg e) g_7
  · exact absurd (g_dvd _ _ hg e) g_11
theorem g_inj_le (i j : Nat) (hij : i ≤ j) (h : 38 ^ i % 55441 = 38 ^ j % 55441) : 55440 ∣ j - i := by
  apply g_order
  have e : j = i + (j - i) := by omega
  have h1 : 38 ^ i * 1 % 55441 = 38 ^ i * 38 ^ (j - i) % 55441 := by
    rw [← Nat.pow_add, ← e, Nat.mul_one]; exact h
  have := g_cancel i _ _ h1
  simpa using this.symm
/-- equal powers have exponents with equal remainders -/
theorem g_inj (i j : Nat) (h : 38 ^ i % 55441 = 38 ^ j % 55441) : i % 55440 = j % 55440 := by
  rcases Nat.le_total i j with hij | hij
  · have := g_inj_le i j hij h; omega
  · have := g_inj_le j i hij h.symm; omega
theorem g_red (k : Nat) : 38 ^ k % 55441 = 38 ^ (k % 55440) % 55441 := by
  have e : k = k % 55440 + 55440 * (k / 55440) := (Nat.mod_add_div k 55440).symm
  have h1 := pow_mul_one 38 55440 55441 (k / 55440) g_one
  conv => lhs; rw [e, pow_add_mod, h1]
  simp
theorem pigeon : ∀ (l m : List Nat), l.Nodup → (∀ x ∈ l, x ∈ m) → m.length ≤ l.length → ∀ y ∈ m, y ∈ l := by
  intro l
  induction l with
  | nil => intro m _ _ h y hy; have : m = [] := List.length_eq_zero_iff.1 (by simpa using h); subst this; simp at hy
  | cons a t ih =>
    intro m hn hs hl y hy
    have ⟨hat, hnt⟩ := List.nodup_cons.1 hn
    have ham : a ∈ m := hs a (by simp)
    by_cases e : y = a
    · subst e; simp
    · have hy' : y ∈ m.erase a := (List.mem_erase_of_ne e).2 hy
      refine List.mem_cons_of_mem _ (ih (m.erase a) hnt ?_ ?_ y hy')
      · intro x hx
        exact (List.mem_erase_of_ne (fun h => hat (by rw [← h]; exact hx))).2 (hs x (List.mem_cons_of_mem _ hx))
      · rw [List.length_erase_of_mem ham]; simp at hl; omega
theorem nodup_map {f : Nat → Nat} : ∀ n, (∀ i j, i < n → j < n → f i = f j → i = j) → ((List.range n).map f).Nodup := by
  intro n h
  rw [List.Nodup, List.pairwise_map]
  refine List.Pairwise.imp_of_mem ?_ (List.nodup_range (n := n))
  intro a b ha hb hab e
  exact hab (h a b (List.mem_range.1 ha) (List.mem_range.1 hb) e)
theorem onto {f : Nat → Nat} (n : Nat) (hf : ∀ i, i < n → 1 ≤ f i ∧ f i ≤ n) (hi : ∀ i j, i < n → j < n → f i = f j → i = j) (a : Nat) (h1 : 1 ≤ a) (h2 : a ≤ n) : ∃ k, k < n ∧ f k = a := by
  have := pigeon ((List.range n).map f) (List.range' 1 n) (nodup_map n hi) ?_ (by simp) a (by simp [List.mem_range'_1]; omega)
  · obtain ⟨k, hk, e⟩ := List.mem_map.1 this
    exact ⟨k, List.mem_range.1 hk, e⟩
  · intro x hx
    obtain ⟨k, hk, e⟩ := List.mem_map.1 hx
    have := hf k (List.mem_range.1 hk)
    simp [List.mem_range'_1]; omega
/-- each number other than 0 is a power of 38 -/
theorem log_ex (a : Nat) (h1 : 1 ≤ a) (h2 : a < 55441) : ∃ k, k < 55440 ∧ 38 ^ k % 55441 = a := by
  refine onto 55440 (f := fun k => 38 ^ k % 55441) ?_ ?_ a h1 (by omega)
  · intro i _
    have := g_ne_zero i
    have := Nat.mod_lt (38 ^ i) (show 0 < 55441 by omega)
    show 1 ≤ 38 ^ i % 55441 ∧ 38 ^ i % 55441 ≤ 55440
    omega
  · intro i j hi hj h
    have := g_inj i j h
    omega
/-- the little theorem -/
theorem pow_of_pow (a b k n m : Nat) (h : b ^ k % m = a % m) : a ^ n % m = b ^ (n * k) % m := by
  rw [Nat.pow_mod, ← h, ← Nat.pow_mod, ← Nat.pow_mul, Nat.mul_comm]
theorem fermat (a : Nat) (h1 : a % 55441 ≠ 0) : a ^ 55440 % 55441 = 1 := by
  obtain ⟨k, _, h⟩ := log_ex (a % 55441) (by omega) (by omega)
  exact (pow_of_pow a 38 k 55440 55441 h).trans (pow_mul_one 38 55440 55441 k g_one)
theorem mul_zero' (a b : Nat) (h : a * b % 55441 = 0) : a % 55441 = 0 ∨ b % 55441 = 0 := by
  by_cases ha : a % 55441 = 0
  · exact Or.inl ha
  · by_cases hb : b % 55441 = 0
    · exact Or.inr hb
    · obtain ⟨i, _, hi⟩ := log_ex (a % 55441) (by omega) (by omega)
      obtain ⟨j, _, hj⟩ := log_ex (b % 55441) (by omega) (by omega)
      rw [Nat.mul_mod, ← hi, ← hj, ← pow_add_mod] at h
      exact absurd h (g_ne_zero _)
/-- quotients -/
theorem mul_pow_mod (a n k m : Nat) (h : n + 1 = k) : a * (a ^ n % m) % m = a ^ k % m := by
  rw [Nat.mul_mod, Nat.mod_mod, ← Nat.mul_mod, Nat.mul_comm, ← Nat.pow_succ, show n.succ = k from h]
theorem inv_mul (a : Nat) (h1 : a % 55441 ≠ 0) : a * (a ^ 55439 % 55441) % 55441 = 1 :=
  (mul_pow_mod a 55439 55440 55441 rfl).trans (fermat a h1)
theorem pow_red' (a k n m : Nat) (h1 : a ^ n % m = 1) : a ^ k % m = a ^ (k % n) % m := by
  have e : k = k % n + n * (k / n) := (Nat.mod_add_div k n).symm
  have h1 := pow_mul_one a n m (k / n) h1
  conv => lhs; rw [e, pow_add_mod, h1]
  rw [Nat.mul_one, Nat.mod_mod]
theorem pow_red (a k : Nat) (h1 : a % 55441 ≠ 0) : a ^ k % 55441 = a ^ (k % 55440) % 55441 :=
  pow_red' a k 55440 55441 (fermat a h1)

/-! ### logarithms, step by step -/
theorem g_congr (i j : Nat) (h : i % 55440 = j % 55440) : 38 ^ i % 55441 = 38 ^ j % 55441 := by
  rw [g_red i, g_red j, h]
theorem log_test (M L k : Nat) (hM : M ∣ 55440) : (38 ^ (k * (55440 / M)) % 55441 = 38 ^ (L * (55440 / M)) % 55441) ↔ k % M = L % M := by
  obtain ⟨z, hz⟩ := hM
  have hM0 : 0 < M := by
    rcases Nat.eq_zero_or_pos M with h | h
    · rw [h, Nat.zero_mul] at hz; omega
    · exact h
  have hz0 : 0 < z := by
    rcases Nat.eq_zero_or_pos z with h | h
    · rw [h, Nat.mul_zero] at hz; omega
    · exact h
  have e : 55440 / M = z := by rw [hz]; exact Nat.mul_div_cancel_left z hM0
  rw [e]
  constructor
  · intro h
    have := g_inj _ _ h
    rw [hz, Nat.mul_mod_mul_right, Nat.mul_mod_mul_right] at this
    exact Nat.eq_of_mul_eq_mul_right hz0 this
  · intro h
    apply g_congr
    rw [hz, Nat.mul_mod_mul_right, Nat.mul_mod_mul_right, h]
theorem pow_log (a L e : Nat) (ha : 38 ^ L % 55441 = a) : a ^ e % 55441 = 38 ^ (L * e) % 55441 := by
  rw [← ha, ← Nat.pow_mod, Nat.pow_mul]
/-- the remainder by a multiple -/
theorem mod_mul' (L m p : Nat) : L % (m * p) = L % m + m * (L / m % p) := Nat.mod_mul

/-! ### square roots -/
theorem sq_eq (x y : Nat) (hx : x < 55441) (hy : y < 55441) (h : x * x % 55441 = y * y % 55441) : x = y ∨ x + y = 55441 := by
  have key : ∀ x y : Nat, y ≤ x → x < 55441 → x * x % 55441 = y * y % 55441 → x = y ∨ x + y = 55441 := by
    intro x y hxy hx h
    have e : x * x = y * y + (x - y) * (x + y) := by
      obtain ⟨d, rfl⟩ := Nat.exists_eq_add_of_le hxy
      have : y + d - y = d := by omega
      rw [this, Nat.add_mul, Nat.mul_add, Nat.mul_add, Nat.mul_add, Nat.mul_comm d y]
      have : d * (y + d) = d * y + d * d := Nat.mul_add _ _ _
      have := Nat.mul_comm d y
      omega
    have h0 : (x - y) * (x + y) % 55441 = 0 := by
      have e2 : x * x % 55441 = (y * y + (x - y) * (x + y)) % 55441 := by rw [← e]
      omega
    rcases mul_zero' _ _ h0 with h1 | h1 <;> omega
  rcases Nat.le_total y x with hh | hh
  · exact key x y hh hx h
  · rcases key y x hh hy h.symm with h1 | h1 <;> omega
theorem sq_log (L : Nat) (h : L % 2 = 0) : (38 ^ (L / 2) % 55441) * (38 ^ (L / 2) % 55441) % 55441 = 38 ^ L % 55441 := by
  rw [← pow_add_mod, show L / 2 + L / 2 = L from by omega]
theorem sq_odd (L x : Nat) (h : L % 2 = 1) : x * x % 55441 ≠ 38 ^ L % 55441 := by
  intro hx
  by_cases h0 : x % 55441 = 0
  · rw [Nat.mul_mod, h0] at hx
    exact g_ne_zero L (by simpa using hx.symm)
  · obtain ⟨i, _, hi⟩ := log_ex (x % 55441) (by omega) (by omega)
    rw [Nat.mul_mod, ← hi, ← pow_add_mod] at hx
    have := g_inj _ _ hx
    omega

/-! ### orders -/
/-- the exponent d can't be divided by q -/
def Fine (a d q : Nat) : Prop := ¬ (d % q = 0 ∧ a ^ (d / q) % 55441 = 1)
theorem fine_of_div (a d p q : Nat) (hp : d % p = 0) (_hp0 : 0 < p) (h : Fine a d q) : Fine a (d / p) q := by
  intro ⟨h1, h2⟩
  apply h
  obtain ⟨m, rfl⟩ := Nat.dvd_of_mod_eq_zero hp
  rw [Nat.mul_div_cancel_left m _hp0] at h1 h2
  obtain ⟨k, rfl⟩ := Nat.dvd_of_mod_eq_zero h1
  by_cases hq : q = 0
  · subst hq; simp at h2 ⊢
  · have e : p * (q * k) = q * (p * k) := Nat.mul_left_comm _ _ _
    rw [e, Nat.mul_mod_right, Nat.mul_div_cancel_left _ (Nat.pos_of_ne_zero hq)]
    rw [Nat.mul_div_cancel_left _ (Nat.pos_of_ne_zero hq)] at h2
    refine ⟨rfl, ?_⟩
    rw [Nat.mul_comm p k]
    exact pow_mul_one a k 55441 p h2
/-- d is the order of a -/
structure IsOrder (a d : Nat) : Prop where
  dvd : d ∣ 55440
  one : a ^ d % 55441 = 1
  f2 : Fine a d 2
  f3 : Fine a d 3
  f5 : Fine a d 5
  f7 : Fine a d 7
  f11 : Fine a d 11
theorem order_pos {a d : Nat} (h : IsOrder a d) : 0 < d := by
  rcases Nat.eq_zero_or_pos d with h0 | h0
  · have := h.dvd; rw [h0] at this; have := Nat.eq_zero_of_zero_dvd this; omega
  · exact h0
theorem order_le {a d : Nat} (h : IsOrder a d) : d ≤ 55440 := Nat.le_of_dvd (by omega) h.dvd
theorem fine_no (a d m q g : Nat) (hg : 0 < q) (hd : d = g * m) (hm : m % q = 0) (h1 : a ^ g % 55441 = 1) : ¬ Fine a d q := by
  intro h
  apply h
  obtain ⟨k, rfl⟩ := Nat.dvd_of_mod_eq_zero hm
  have e : d = q * (g * k) := by rw [hd]; exact Nat.mul_left_comm _ _ _
  rw [e, Nat.mul_mod_right, Nat.mul_div_cancel_left _ hg]
  exact ⟨rfl, pow_mul_one a g 55441 k h1⟩
/-- the order divides all exponents with the power 1 -/
theorem order_dvd {a d : Nat} (h : IsOrder a d) (x : Nat) (hx : a ^ x % 55441 = 1) : d ∣ x := by
  have hg := x_gcd a d x h.one hx
  obtain ⟨m, hm⟩ := Nat.gcd_dvd_left d x
  have hmN : m ∣ 55440 := Nat.dvd_trans ⟨Nat.gcd d x, by rw [Nat.mul_comm]; exact hm⟩ h.dvd
  have n2 : m % 2 ≠ 0 := fun e => fine_no a d m 2 _ (by omega) hm e hg h.f2
  have n3 : m % 3 ≠ 0 := fun e => fine_no a d m 3 _ (by omega) hm e hg h.f3
  have n5 : m % 5 ≠ 0 := fun e => fine_no a d m 5 _ (by omega) hm e hg h.f5
  have n7 : m % 7 ≠ 0 := fun e => fine_no a d m 7 _ (by omega) hm e hg h.f7
  have n11 : m % 11 ≠ 0 := fun e => fine_no a d m 11 _ (by omega) hm e hg h.f11
  have := div_one m hmN n2 n3 n5 n7 n11
  rw [this, Nat.mul_one] at hm
  rw [hm]; exact Nat.gcd_dvd_right d x
theorem order_unique {a d e : Nat} (h : IsOrder a d) (h' : IsOrder a e) : d = e :=
  Nat.dvd_antisymm (order_dvd h e h'.one) (order_dvd h' d h.one)
/-- the order of a root of unity -/
theorem order_root {n d : Nat} (hn : n ∣ 55440) (h : IsOrder (38 ^ (55440 / n) % 55441) d) : d = n := by
  obtain ⟨z, hz⟩ := hn
  have hn0 : 0 < n := by
    rcases Nat.eq_zero_or_pos n with h | h
    · rw [h, Nat.zero_mul] at hz; omega
    · exact h
  have hz0 : 0 < z := by
    rcases Nat.eq_zero_or_pos z with h | h
    · rw [h, Nat.mul_zero] at hz; omega
    · exact h
  have e : 55440 / n = z := by rw [hz]; exact Nat.mul_div_cancel_left z hn0
  rw [e] at h
  have pw : ∀ x, (38 ^ z % 55441) ^ x % 55441 = 38 ^ (z * x) % 55441 := by
    intro x; rw [← Nat.pow_mod, Nat.pow_mul]
  apply Nat.dvd_antisymm
  · refine order_dvd h n ?_
    rw [pw, Nat.mul_comm z n, ← hz]; exact g_one
  · have h1 := h.one
    rw [pw] at h1
    have h2 := g_order _ h1
    rw [hz, Nat.mul_comm z d] at h2
    exact Nat.dvd_of_mul_dvd_mul_right hz0 h2
theorem order_ex (a : Nat) (h : a % 55441 ≠ 0) : ∃ d, IsOrder a d := by
  have key : ∀ n d, d ≤ n → 0 < d → d ∣ 55440 → a ^ d % 55441 = 1 → ∃ e, IsOrder a e := by
    intro n
    induction n with
    | zero => intro d h1 h2; omega
    | succ n ih =>
      intro d hd hp hdv h1
      have step : ∀ q, 2 ≤ q → ¬ Fine a d q → ∃ e, IsOrder a e := by
        intro q hq hf
        have hf' : d % q = 0 ∧ a ^ (d / q) % 55441 = 1 := Classical.not_not.1 hf
        have hdq : d / q ∣ d := Nat.div_dvd_of_dvd (Nat.dvd_of_mod_eq_zero hf'.1)
        have hlt : d / q < d := Nat.div_lt_self hp hq
        have hpos : 0 < d / q := Nat.div_pos (Nat.le_of_dvd hp (Nat.dvd_of_mod_eq_zero hf'.1)) (by omega)
        exact ih (d / q) (by omega) hpos (Nat.dvd_trans hdq hdv) hf'.2
      by_cases f2 : Fine a d 2
      · by_cases f3 : Fine a d 3
        · by_cases f5 : Fine a d 5
          · by_cases f7 : Fine a d 7
            · by_cases f11 : Fine a d 11
              · exact ⟨d, hdv, h1, f2, f3, f5, f7, f11⟩
              · exact step 11 (by omega) f11
            · exact step 7 (by omega) f7
          · exact step 5 (by omega) f5
        · exact step 3 (by omega) f3
      · exact step 2 (by omega) f2
  exact key 55440 55440 (Nat.le_refl _) (by omega) (Nat.dvd_refl _) (fermat a h)
def Pw (r n : Nat) : Nat := r ^ n % 55441
theorem small_pow : ∀ r : Fin 38, r.val = 0 ∨ Pw r.val 27720 = 1 ∨ Pw r.val 18480 = 1 ∨ Pw r.val 11088 = 1 ∨ Pw r.val 7920 = 1 ∨ Pw r.val 5040 = 1 := by decide +kernel
theorem fine_false (a d q n : Nat) (hd : d % q = 0) (hn : d / q = n) (g : Pw a n = 1) : ¬ Fine a d q := fun h => h ⟨hd, by rw [hn]; exact g⟩
theorem fine_true (a d q n : Nat) (hn : d / q = n) (g : a ^ n % 55441 ≠ 1) : Fine a d q := fun h => g (by rw [← hn]; exact h.2)
/-- no number below 38 is primitive -/
theorem not_prim (r d : Nat) (h0 : 0 < r) (h1 : r < 38) (h : IsOrder r d) : d ≠ 55440 := by
  intro e
  rw [e] at h
  rcases small_pow ⟨r, h1⟩ with g | g | g | g | g | g
  · simp at g; omega
  · exact fine_false r 55440 2 27720 rfl rfl g h.f2
  · exact fine_false r 55440 3 18480 rfl rfl g h.f3
  · exact fine_false r 55440 5 11088 rfl rfl g h.f5
  · exact fine_false r 55440 7 7920 rfl rfl g h.f7
  · exact fine_false r 55440 11 5040 rfl rfl g h.f11
theorem prim_order : IsOrder 38 55440 :=
  ⟨Nat.dvd_refl _, g_one, fine_true 38 55440 2 27720 rfl g_2, fine_true 38 55440 3 18480 rfl g_3, fine_true 38 55440 5 11088 rfl g_5, fine_true 38 55440 7 7920 rfl g_7, fine_true 38 55440 11 5040 rfl g_11⟩
end Go.Proofs.Ytmdmojklagmmiaa.NT
