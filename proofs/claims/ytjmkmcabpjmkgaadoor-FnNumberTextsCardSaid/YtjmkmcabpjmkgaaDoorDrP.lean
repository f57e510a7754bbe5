/- The loop of the drawn text, without Go: what its rounds keep, and why they end. -/
import Derived.Test.YtjmkmcabpjmkgaaDoorSrcP
namespace Go.Proofs.YtjmkmcabpjmkgaaDoor
open Go.RowKit
theorem exists_least (p : Nat → Prop) (h : ∃ n, p n) : ∃ n, p n ∧ ∀ k, p k → n ≤ k := by
  obtain ⟨n, hn⟩ := h
  induction n using Nat.strongRecOn with
  | ind n ih =>
    by_cases hk : ∃ k, k < n ∧ p k
    · obtain ⟨k, hk, hp⟩ := hk
      exact ih k hk hp
    · refine ⟨n, hn, fun k hp => ?_⟩
      by_cases h : n ≤ k
      · exact h
      · exact absurd ⟨k, by omega, hp⟩ hk
/-- the least number with p, or 0 -/
noncomputable def least (p : Nat → Prop) : Nat := open Classical in if h : ∃ n, p n then Classical.choose (exists_least p h) else 0
theorem least_has {p : Nat → Prop} (h : ∃ n, p n) : p (least p) := by
  unfold least; rw [dif_pos h]; exact (Classical.choose_spec (exists_least p h)).1
theorem least_le {p : Nat → Prop} {k : Nat} (h : p k) : least p ≤ k := by
  unfold least; rw [dif_pos ⟨k, h⟩]; exact (Classical.choose_spec (exists_least p ⟨k, h⟩)).2 k h
/-- the tests up to the time t -/
def Trail (t z0 : Nat) (V : Nat → Prop) : Prop := V t ∧ (∀ s, s < t → V s ∨ V (s + 1)) ∧ ∀ s, s < t → V s → Run.zer (Run.itf twof s z0) = true
theorem Trail.le {t z0 : Nat} {V : Nat → Prop} (h : Trail t z0 V) : t ≤ 1275068417 := by
  by_cases ht : t ≤ 1275068417
  · exact ht
  · exact (Run.no_long twof_two z0 V (fun s hs => h.2.1 s (by omega)) (fun s hs => h.2.2 s (by omega))).elim
theorem Trail.step {t z0 : Nat} {V : Nat → Prop} (h : Trail t z0 V) (hz : Run.zer (Run.itf twof t z0) = true) (t' : Nat) (ht : t' = t + 1 ∨ t' = t + 2) : ∃ V', Trail t' z0 V' := by
  refine ⟨fun s => (s ≤ t ∧ V s) ∨ s = t', Or.inr rfl, fun s hs => ?_, fun s hs hv => ?_⟩
  · by_cases h1 : s < t
    · rcases h.2.1 s h1 with v | v
      · exact Or.inl (Or.inl ⟨by omega, v⟩)
      · exact Or.inr (Or.inl ⟨by omega, v⟩)
    · by_cases h2 : s = t
      · subst h2; exact Or.inl (Or.inl ⟨Nat.le_refl _, h.1⟩)
      · exact Or.inr (Or.inr (by omega))
  · rcases hv with ⟨h1, v⟩ | h1
    · by_cases h2 : s = t
      · subst h2; exact hz
      · exact h.2.2 s (by omega) v
    · omega
theorem twof_mod (x : Nat) : twof (x % 144115188075855872) = twof x := by
  unfold twof
  omega
theorem twof_self (x : Nat) : twof x % 144115188075855872 = twof x := by
  unfold twof
  rw [Nat.mod_mod]
/-- what the loop keeps: m bytes left, hash h, a text of L bytes, a measure -/
def LS (m : Nat) (h : Int) (L mu : Nat) : Prop := (0 ≤ h ∧ h < 18446744073709551616) ∧ ∃ t z0 V, L + m ≤ 100000 + t ∧ (0 < m → t = 0) ∧ (m = 0 → Trail t z0 V ∧ (lcg h).toNat % 144115188075855872 = Run.itf twof t z0 % 144115188075855872) ∧ mu = m + (1275068418 - t)
theorem LS.len {m L mu : Nat} {h : Int} (hs : LS m h L mu) : L ≤ 4294967200 := by
  obtain ⟨_, t, z0, V, h1, h2, h3, _⟩ := hs
  rcases Nat.eq_zero_or_pos m with h0 | h0
  · have := (h3 h0).1.le; omega
  · have := h2 h0; omega
theorem LS.fresh {m L : Nat} {h : Int} (hb : 0 ≤ h ∧ h < 18446744073709551616) (hL : L + m ≤ 100000) : LS m h L (m + 1275068418) :=
  ⟨hb, 0, (lcg h).toNat, fun s => s = 0, by omega, fun _ => rfl, fun _ => ⟨⟨rfl, fun s hs => absurd hs (Nat.not_lt_zero _), fun s hs => absurd hs (Nat.not_lt_zero _)⟩, rfl⟩, by omega⟩
theorem lcg_two' (h : Int) {t z0 : Nat} (_ : 0 ≤ h ∧ h < 18446744073709551616) (e : (lcg h).toNat % 144115188075855872 = Run.itf twof t z0 % 144115188075855872) : (lcg (lcg (lcg h))).toNat % 144115188075855872 = Run.itf twof (t + 1) z0 % 144115188075855872 := by
  obtain ⟨b0, b1⟩ := lcg_bd h
  rw [lcg_two _ b0 b1, e, twof_mod, Run.it_succ, twof_self]
theorem LS.next {m L mu : Nat} {h : Int} (hs : LS m h L mu) (hz : m = 0 → xv (lcg h) % 3 = 0) (L' : Nat) (hL : L' ≤ L + 1) :
    (∃ mu', mu' < mu ∧ LS (m - 1 - 1) (lcg (lcg h)) L' mu') ∧ (∃ mu', mu' < mu ∧ LS (m - 1 - 3) (lcg (lcg (lcg (lcg h)))) L' mu') := by
  obtain ⟨hb, t, z0, V, h1, h2, h3, rfl⟩ := hs
  rcases Nat.eq_zero_or_pos m with h0 | h0
  · subst h0
    obtain ⟨hT, he⟩ := h3 rfl
    have hle := hT.le
    obtain ⟨b0, b1⟩ := lcg_bd h
    have hzz := zero3 _ b0 b1 (hz rfl)
    rw [← Run.zer_mod, he, Run.zer_mod] at hzz
    obtain ⟨V1, hT1⟩ := hT.step hzz (t + 1) (Or.inl rfl)
    obtain ⟨V2, hT2⟩ := hT.step hzz (t + 2) (Or.inr rfl)
    have e1 := lcg_two' h hb he
    have e2 := lcg_two' (lcg (lcg h)) (lcg_bd _) e1
    exact ⟨⟨_, by omega, lcg_bd _, t + 1, z0, V1, by omega, fun h => absurd h (by omega), fun _ => ⟨hT1, e1⟩, rfl⟩, ⟨_, by omega, lcg_bd _, t + 2, z0, V2, by omega, fun h => absurd h (by omega), fun _ => ⟨hT2, e2⟩, rfl⟩⟩
  · have ht := h2 h0
    subst ht
    exact ⟨⟨_, by omega, LS.fresh (lcg_bd _) (by omega)⟩, ⟨_, by omega, LS.fresh (lcg_bd _) (by omega)⟩⟩
end Go.Proofs.YtjmkmcabpjmkgaaDoor
