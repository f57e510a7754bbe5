/- The drawn source's numbers: of those at times with gaps of at most two, not all are 0 mod 3 for long. No Go. -/
import Derived.Test.YtjmkmcabpjmkgaaDoorNt
namespace Go.Proofs.YtjmkmcabpjmkgaaDoor.Run
/-- n steps of f -/
def itf (f : Nat → Nat) : Nat → Nat → Nat
  | 0, h => h
  | n + 1, h => itf f n (f h)
theorem it_add (f : Nat → Nat) : ∀ (m n h : Nat), itf f (m + n) h = itf f n (itf f m h) := by
  intro m
  induction m with
  | zero => intro n h; rw [Nat.zero_add]; rfl
  | succ m ih => intro n h; rw [Nat.succ_add]; exact ih n (f h)
theorem it_zero (f : Nat → Nat) (h : Nat) : itf f 0 h = h := rfl
theorem it_one (f : Nat → Nat) (h : Nat) : itf f 1 h = f h := rfl
theorem it_succ (f : Nat → Nat) (n h : Nat) : itf f (n + 1) h = f (itf f n h) := by rw [it_add, it_one]
/-- two steps of the source, mod 2^57 -/
def Two (f : Nat → Nat) : Prop := ∀ h, f h = (26907944365829609 * h + 2513558822350130) % 144115188075855872
/-- the numbers of a jump of 2^m -/
def JJ : Nat → Nat × Nat
  | 0 => (26907944365829609, 2513558822350130)
  | m + 1 => ((JJ m).1 * (JJ m).1 % 144115188075855872, ((JJ m).1 + 1) * (JJ m).2 % 144115188075855872)
theorem jump {f : Nat → Nat} (hf : Two f) (m : Nat) : ∀ h, itf f (2 ^ m) h = ((JJ m).1 * h + (JJ m).2) % 144115188075855872 := by
  induction m with
  | zero => intro h; rw [Nat.pow_zero, it_one, hf h, JJ]
  | succ m ih =>
    intro h
    rw [Nat.pow_succ, Nat.mul_two, it_add, ih, ih, JJ]
    generalize (JJ m).1 = A
    generalize (JJ m).2 = C
    show (A * ((A * h + C) % 144115188075855872) + C) % 144115188075855872 = (A * A % 144115188075855872 * h + (A + 1) * C % 144115188075855872) % 144115188075855872
    have e1 : A * A * h + (A + 1) * C = A * (A * h + C) + C := by
      rw [Nat.add_mul, Nat.one_mul, Nat.mul_add, Nat.mul_assoc, Nat.add_assoc]
    have r : ((A * A % 144115188075855872) * h + (A + 1) * C % 144115188075855872) % 144115188075855872 = (A * A * h + (A + 1) * C) % 144115188075855872 := by
      simp [Nat.add_mod, Nat.mul_mod]
    rw [r, e1, Nat.add_mod, Nat.mul_mod, Nat.mod_mod, ← Nat.mul_mod, ← Nat.add_mod]
def jOk (m : Nat) : Bool := (JJ m).1 % 2 ^ (m + 3) == 1 && (JJ m).2 % 2 ^ (m + 2) == 2 ^ (m + 1)
theorem jOk_all : (List.range 27).all jOk = true := by decide +kernel
theorem jOk_at (m : Nat) (h : m < 27) : (JJ m).1 % 2 ^ (m + 3) = 1 ∧ (JJ m).2 % 2 ^ (m + 2) = 2 ^ (m + 1) := by
  have := List.all_eq_true.1 jOk_all m (List.mem_range.2 h)
  unfold jOk at this
  simpa using this
theorem J27 : JJ 27 = (20113599208882177, 55579970528870400) := by decide +kernel
/-- a jump of 2^m turns the bit m + 1 and leaves those below it -/
theorem flip {f : Nat → Nat} (hf : Two f) (m : Nat) (hm : m < 26) (h : Nat) : itf f (2 ^ m) h % 2 ^ (m + 2) = (h + 2 ^ (m + 1)) % 2 ^ (m + 2) := by
  obtain ⟨h1, h2⟩ := jOk_at m (by omega)
  rw [jump hf]
  have hd : 2 ^ (m + 2) ∣ 144115188075855872 := by
    have : (144115188075855872 : Nat) = 2 ^ (m + 2) * 2 ^ (57 - (m + 2)) := by
      rw [← Nat.pow_add, show m + 2 + (57 - (m + 2)) = 57 by omega]
    rw [this]; exact Nat.dvd_mul_right _ _
  rw [Nat.mod_mod_of_dvd _ hd]
  have hA : (JJ m).1 % 2 ^ (m + 2) = 1 % 2 ^ (m + 2) := by
    have hd' : 2 ^ (m + 2) ∣ 2 ^ (m + 3) := Nat.pow_dvd_pow 2 (by omega)
    rw [← Nat.mod_mod_of_dvd _ hd', h1]
  have h2' : (JJ m).2 % 2 ^ (m + 2) = 2 ^ (m + 1) % 2 ^ (m + 2) := by
    rw [h2, Nat.mod_eq_of_lt (Nat.pow_lt_pow_right (by decide) (by omega))]
  rw [Nat.add_mod, Nat.mul_mod, hA, h2', ← Nat.mul_mod, ← Nat.add_mod, Nat.one_mul]
theorem reach {f : Nat → Nat} (hf : Two f) (y : Nat) : ∀ (k h : Nat), k ≤ 26 → y % 2 = h % 2 → ∃ t, t < 2 ^ k ∧ itf f t h % 2 ^ (k + 1) = y % 2 ^ (k + 1) := by
  intro k
  induction k with
  | zero => intro h _ hp; exact ⟨0, by decide, by rw [it_zero]; exact hp.symm⟩
  | succ k ih =>
    intro h hk hp
    obtain ⟨t, ht, he⟩ := ih h (by omega) hp
    have hg := flip hf k (by omega) (itf f t h)
    have e2 : 2 ^ (k + 1 + 1) = 2 ^ (k + 1) * 2 := Nat.pow_succ _ _
    have e1 : 2 ^ (k + 1) = 2 ^ k * 2 := Nat.pow_succ _ _
    have hpos : 0 < 2 ^ k := Nat.two_pow_pos k
    by_cases hs : itf f t h % 2 ^ (k + 1 + 1) = y % 2 ^ (k + 1 + 1)
    · exact ⟨t, by omega, hs⟩
    · refine ⟨t + 2 ^ k, by omega, ?_⟩
      rw [it_add, show k + 1 + 1 = k + 2 from rfl, hg]
      rw [show k + 1 + 1 = k + 2 from rfl] at hs
      have e3 : 2 ^ (k + 2) = 2 ^ (k + 1) * 2 := Nat.pow_succ _ _
      generalize 2 ^ (k + 1) = P at *
      rw [e3] at hs ⊢
      have q1 := Nat.mod_mul (x := itf f t h) (a := P) (b := 2)
      have q2 := Nat.mod_mul (x := y) (a := P) (b := 2)
      have q3 := Nat.mod_mul (x := itf f t h + P) (a := P) (b := 2)
      have hP : 0 < P := by omega
      rw [Nat.add_mod_right, Nat.add_div_right _ hP] at q3
      rw [q1, q2] at hs
      rw [q3, q2]
      rw [he] at hs ⊢
      have d1 : itf f t h / P % 2 < 2 := Nat.mod_lt _ (by decide)
      have d2 : y / P % 2 < 2 := Nat.mod_lt _ (by decide)
      have d3 : (itf f t h / P).succ % 2 = y / P % 2 := by
        have : itf f t h / P % 2 ≠ y / P % 2 := fun e => hs (by rw [e])
        omega
      rw [d3]
/-- how many of the first n -/
def cnt (p : Nat → Bool) : Nat → Nat
  | 0 => 0
  | n + 1 => cnt p n + (if p n then 1 else 0)
theorem cnt_or (p q : Nat → Bool) : ∀ n, (∀ j, j < n → p j = true ∨ q j = true) → n ≤ cnt p n + cnt q n := by
  intro n
  induction n with
  | zero => intro _; exact Nat.zero_le _
  | succ n ih =>
    intro h
    have := ih (fun j hj => h j (by omega))
    rw [cnt, cnt]
    rcases h n (by omega) with h | h <;> rw [h] <;> simp <;> omega
theorem cnt_congr (p q : Nat → Bool) : ∀ n, (∀ j, j < n → p j = q j) → cnt p n = cnt q n := by
  intro n
  induction n with
  | zero => intro _; rfl
  | succ n ih => intro h; rw [cnt, cnt, ih (fun j hj => h j (by omega)), h n (by omega)]
def pat (r g jw j : Nat) : Bool := decide ((g + j * r + (if jw ≤ j then 64 else 0)) % 96 < 32)
def most (r k b : Nat) : Bool := (List.range 96).all fun g => (List.range (k + 1)).all fun jw => decide (cnt (pat r g jw) k ≤ b)
theorem most_at {r k b : Nat} (h : most r k b = true) (g jw : Nat) (hg : g < 96) (hj : jw ≤ k) : cnt (pat r g jw) k ≤ b := by
  have := List.all_eq_true.1 (List.all_eq_true.1 h g (List.mem_range.2 hg)) jw (List.mem_range.2 (by omega))
  simpa using this
def zer (h : Nat) : Bool := decide (h / 8589934592 % 16777216 % 3 = 0)
theorem zer_eq (h : Nat) : zer h = decide (h / 268435456 % 536870912 % 96 < 32) := by
  have e : h / 8589934592 % 16777216 = h / 268435456 % 536870912 / 32 := by omega
  unfold zer
  rw [e, decide_eq_decide]
  generalize h / 268435456 % 536870912 = u
  omega
theorem zer_mod (x : Nat) : zer (x % 144115188075855872) = zer x := by
  have e : x % 144115188075855872 / 8589934592 % 16777216 = x / 8589934592 % 16777216 := by omega
  unfold zer
  rw [e]
theorem thr (p : Nat → Bool) (mono : ∀ i j, i ≤ j → p i = true → p j = true) : ∀ k, ∃ Q, Q ≤ k ∧ ∀ j, j < k → (p j = true ↔ Q ≤ j) := by
  intro k
  induction k with
  | zero => exact ⟨0, Nat.le_refl _, fun j hj => absurd hj (Nat.not_lt_zero _)⟩
  | succ k ih =>
    obtain ⟨Q, hQ, h⟩ := ih
    cases hp : p k
    · refine ⟨k + 1, Nat.le_refl _, fun j hj => ⟨fun hj' => ?_, fun hj' => by omega⟩⟩
      have := mono j k (by omega) hj'
      rw [hp] at this; cases this
    · refine ⟨Q, by omega, fun j hj => ?_⟩
      by_cases e : j = k
      · subst e; exact ⟨fun _ => hQ, fun _ => hp⟩
      · exact h j (by omega)
theorem cnt_gen (W R q k b h : Nat) (hW : W = 96 * q + R) (hk : k * W ≤ 536870912) (hm : most R k b = true) : cnt (fun j => zer (h + j * (268435456 * W))) k ≤ b := by
  have hg : h / 268435456 % 536870912 < 536870912 := Nat.mod_lt _ (by decide)
  have key : ∀ j, (h + j * (268435456 * W)) / 268435456 % 536870912 = (h / 268435456 % 536870912 + j * W) % 536870912 := fun j => by
    rw [Nat.mul_left_comm]
    generalize j * W = X
    omega
  generalize h / 268435456 % 536870912 = g at hg key
  obtain ⟨Q, hQ, hq⟩ := thr (fun j => decide (536870912 ≤ g + j * W)) (fun i j hij hi => by
    have := Nat.mul_le_mul_right W hij
    have hi' : 536870912 ≤ g + i * W := of_decide_eq_true hi
    exact decide_eq_true (by omega)) k
  rw [cnt_congr _ (pat R (g % 96) Q) k (fun j hj => by
    show zer _ = pat _ _ _ _
    rw [zer_eq, key]
    unfold pat
    have hjk : j * W ≤ 536870912 := Nat.le_trans (Nat.mul_le_mul_right W (by omega)) hk
    have hjk' : j * W < 536870912 ∨ W = 0 := by
      rcases Nat.eq_zero_or_pos W with h0 | h0
      · exact Or.inr h0
      · exact Or.inl (Nat.lt_of_lt_of_le (Nat.mul_lt_mul_of_pos_right hj h0) hk)
    have hx : j * W = 96 * (j * q) + j * R := by rw [hW, Nat.mul_add, Nat.mul_left_comm]
    have hq' : 536870912 ≤ g + j * W ↔ Q ≤ j := by
      have := hq j hj
      rwa [decide_eq_true_iff] at this
    have hz : W = 0 → j * W = 0 := fun h0 => by rw [h0, Nat.mul_zero]
    generalize j * W = X at *
    generalize j * q = Y at *
    generalize j * R = Z at *
    by_cases hQj : Q ≤ j
    · have b1 := hq'.2 hQj
      have e1 : (g + X) % 536870912 = g + X - 536870912 := by
        rw [Nat.mod_eq_sub_mod b1, Nat.mod_eq_of_lt (by omega)]
      have e2 : (g + X - 536870912) % 96 = (g % 96 + Z + 64) % 96 := by omega
      rw [e1, e2, if_pos hQj]
    · have b1 : g + X < 536870912 := by
        have := fun h => hQj (hq'.1 h)
        omega
      have e1 : (g + X) % 536870912 = g + X := Nat.mod_eq_of_lt b1
      have e2 : (g + X) % 96 = (g % 96 + Z + 0) % 96 := by omega
      rw [e1, e2, if_neg hQj])]
  exact most_at hm _ _ (Nat.mod_lt _ (by decide)) hQ
theorem mostA0 : most 21 10 5 = true := by decide +kernel
theorem cntA0 (h : Nat) : cnt (fun j => zer (h + j * 5637144576)) 10 ≤ 5 := cnt_gen 21 21 0 10 5 h (by decide) (by decide) mostA0
theorem mostB0 : most 61 10 4 = true := by decide +kernel
theorem cntB0 (h : Nat) : cnt (fun j => zer (h + j * 3540710103973888)) 10 ≤ 4 := cnt_gen 13190173 61 137397 10 4 h (by decide) (by decide) mostB0
theorem leap0 {f : Nat → Nat} (hf : Two f) (z : Nat) (hz : z % 134217728 = 31348964) : itf f 134217728 z = (z + 5637144576) % 144115188075855872 := by
  have h := jump hf 27 z
  rw [J27] at h
  rw [show (134217728 : Nat) = 2 ^ 27 from rfl, h]
  show (20113599208882177 * z + 55579970528870400) % _ = _
  omega
theorem leaps0 {f : Nat → Nat} (hf : Two f) (z : Nat) (hz : z % 134217728 = 31348964) : ∀ j, itf f (j * 134217728) z % 144115188075855872 = (z + j * 5637144576) % 144115188075855872 := by
  intro j
  induction j with
  | zero => rw [Nat.zero_mul, it_zero]; simp
  | succ j ih =>
    rw [Nat.succ_mul, it_add, leap0 hf _ (by omega)]
    omega
theorem leapsB0 {f : Nat → Nat} (hf : Two f) (z : Nat) (hz : z % 134217728 = 31348964) (j : Nat) : itf f (j * 134217728 + 1) z = (f z + j * 3540710103973888) % 144115188075855872 := by
  have h := leaps0 hf z hz j
  rw [it_succ]
  generalize itf f (j * 134217728) z = x at *
  rw [hf x, hf z]
  omega
theorem none0 {f : Nat → Nat} (hf : Two f) (z : Nat) (hz : z % 134217728 = 31348964) (h : ∀ j, j < 10 → zer (itf f (j * 134217728) z) = true ∨ zer (itf f (j * 134217728 + 1) z) = true) : False := by
  have hA := cntA0 z
  have hB := cntB0 (f z)
  have := cnt_or (fun j => zer (z + j * 5637144576)) (fun j => zer (f z + j * 3540710103973888)) 10 (fun j hj => by
    rcases h j hj with h | h
    · left
      show zer _ = true
      rw [← zer_mod, ← leaps0 hf z hz j, zer_mod]; exact h
    · right
      show zer _ = true
      rw [← zer_mod, ← leapsB0 hf z hz j]; exact h)
  omega
theorem mostA1 : most 57 9 4 = true := by decide +kernel
theorem cntA1 (h : Nat) : cnt (fun j => zer (h + j * 479157288960)) 9 ≤ 4 := cnt_gen 1785 57 18 9 4 h (by decide) (by decide) mostA1
theorem mostB1 : most 33 9 4 = true := by decide +kernel
theorem cntB1 (h : Nat) : cnt (fun j => zer (h + j * 12729982686068736)) 9 ≤ 4 := cnt_gen 47422881 33 493988 9 4 h (by decide) (by decide) mostB1
theorem leap1 {f : Nat → Nat} (hf : Two f) (z : Nat) (hz : z % 134217728 = 63201477) : itf f 134217728 z = (z + 479157288960) % 144115188075855872 := by
  have h := jump hf 27 z
  rw [J27] at h
  rw [show (134217728 : Nat) = 2 ^ 27 from rfl, h]
  show (20113599208882177 * z + 55579970528870400) % _ = _
  omega
theorem leaps1 {f : Nat → Nat} (hf : Two f) (z : Nat) (hz : z % 134217728 = 63201477) : ∀ j, itf f (j * 134217728) z % 144115188075855872 = (z + j * 479157288960) % 144115188075855872 := by
  intro j
  induction j with
  | zero => rw [Nat.zero_mul, it_zero]; simp
  | succ j ih =>
    rw [Nat.succ_mul, it_add, leap1 hf _ (by omega)]
    omega
theorem leapsB1 {f : Nat → Nat} (hf : Two f) (z : Nat) (hz : z % 134217728 = 63201477) (j : Nat) : itf f (j * 134217728 + 1) z = (f z + j * 12729982686068736) % 144115188075855872 := by
  have h := leaps1 hf z hz j
  rw [it_succ]
  generalize itf f (j * 134217728) z = x at *
  rw [hf x, hf z]
  omega
theorem none1 {f : Nat → Nat} (hf : Two f) (z : Nat) (hz : z % 134217728 = 63201477) (h : ∀ j, j < 9 → zer (itf f (j * 134217728) z) = true ∨ zer (itf f (j * 134217728 + 1) z) = true) : False := by
  have hA := cntA1 z
  have hB := cntB1 (f z)
  have := cnt_or (fun j => zer (z + j * 479157288960)) (fun j => zer (f z + j * 12729982686068736)) 9 (fun j hj => by
    rcases h j hj with h | h
    · left
      show zer _ = true
      rw [← zer_mod, ← leaps1 hf z hz j, zer_mod]; exact h
    · right
      show zer _ = true
      rw [← zer_mod, ← leapsB1 hf z hz j]; exact h)
  omega
end Go.Proofs.YtjmkmcabpjmkgaaDoor.Run
