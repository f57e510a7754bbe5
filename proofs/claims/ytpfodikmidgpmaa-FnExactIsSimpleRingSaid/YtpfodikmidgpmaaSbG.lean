/- Subrings of the specification: bits, what is spread, the least subring. -/
import Derived.Test.YtpfodikmidgpmaaSbF
import Derived.Test.YtpfodikmidgpmaaRgH
namespace Go.Proofs.Ytpfodikmidgpmaa
open Go.RowKit
set_option linter.unusedSimpArgs false
set_option linter.unusedVariables false
set_option maxRecDepth 100000 in
theorem l05Bit_f (s i : Nat) (hs : s < 65536) (hi : i ≤ 60) (w : World) :
    Calls Try.prog 103 #[.int .i64 s, .int .i64 i] w fun e w' => e = .returned (.bool (s.testBit i)) ∧ w = w' := by
  have HB := Lib.hid (bit_i64 (s := s) (by omega) i)
  go_enter Try.func103, Try.ntmps103
  go_wp2_with fail
  go_ret
  exact ⟨ret_bool HB.out, rfl⟩
set_option maxRecDepth 100000 in
theorem l05All_f (a : Option Addr) (n c : Nat) (w : World) (h16 : n ≤ 16) :
    Calls Try.prog 81 #[.agg #[.slice a n c]] w fun e w' => e = .returned (.int .i64 ((2 ^ n - 1 : Nat) : Int)) ∧ Below w.heap.size w w' := by
  have hp := pow_le16 h16
  have hp0 : 0 < 2 ^ n := Nat.pow_pos (by omega)
  have HE := Lib.hid (pow_i64 (show n ≤ 40 by omega))
  have e0 := cell_box w (.slice a n c) 28
  have HB := Lib.hid (below_alloc w (.cells #[.slice a n c] 28))
  go_enter Try.func81, Try.ntmps81
  go_wp2_with fail
  go_ret
  refine ⟨?_, HB.out⟩
  show Ending.returned (Value.int .i64 (wrap64 (wrap64 (2 ^ n) - 1))) = _
  rw [HE.out]
  obtain ⟨x, hx⟩ : ∃ x, x = 2 ^ n := ⟨_, rfl⟩
  rw [← hx] at hp hp0 ⊢
  have e2 : wrap64 ((x : Int) - 1) = ((x - 1 : Nat) : Int) := by simp [wrap64]; omega
  rw [e2]
/-- what a set spreads to -/
def Spr (n : Nat) (f : Nat → Nat → Nat → Int) (s k : Nat) : Prop :=
  s.testBit k = true ∨ k = 0 ∨ (∃ i, i < n ∧ s.testBit i = true ∧ k = dn n f i) ∨ (k < n ∧ ∃ i j, i < n ∧ j < n ∧ s.testBit i = true ∧ s.testBit j = true ∧ f i j k ≠ 0)
def SpA (n : Nat) (f : Nat → Nat → Nat → Int) (s t : Nat) : Prop := t < 2 ^ n ∧ (∀ k, t.testBit k = true → Spr n f s k) ∧ subS s t ∧ t.testBit 0 = true
def SpB (n : Nat) (f : Nat → Nat → Nat → Int) (s i t : Nat) : Prop := ∀ i', i' < i → s.testBit i' = true → t.testBit (dn n f i') = true ∧ ∀ j, j < n → s.testBit j = true → ∀ k, k < n → f i' j k ≠ 0 → t.testBit k = true
def SpC (n : Nat) (f : Nat → Nat → Nat → Int) (s i j t : Nat) : Prop := t.testBit (dn n f i) = true ∧ ∀ j', j' < j → s.testBit j' = true → ∀ k, k < n → f i j' k ≠ 0 → t.testBit k = true
def SpD (n : Nat) (f : Nat → Nat → Nat → Int) (i j kk t : Nat) : Prop := ∀ k, k < kk → k < n → f i j k ≠ 0 → t.testBit k = true
theorem SpB.up {n : Nat} {f : Nat → Nat → Nat → Int} {s i t t' : Nat} (h : SpB n f s i t) (hs : subS t t') : SpB n f s i t' :=
  fun i' hi hb => ⟨hs _ (h i' hi hb).1, fun j hj bj k hk hf => hs _ ((h i' hi hb).2 j hj bj k hk hf)⟩
theorem SpC.up {n : Nat} {f : Nat → Nat → Nat → Int} {s i j t t' : Nat} (h : SpC n f s i j t) (hs : subS t t') : SpC n f s i j t' :=
  ⟨hs _ h.1, fun j' hj bj k hk hf => hs _ (h.2 j' hj bj k hk hf)⟩
theorem SpD.up {n : Nat} {f : Nat → Nat → Nat → Int} {i j kk t t' : Nat} (h : SpD n f i j kk t) (hs : subS t t') : SpD n f i j kk t' :=
  fun k hk hn hf => hs _ (h k hk hn hf)
theorem sub_or {t p : Nat} : subS t (t ||| p) := fun _ h => or_bit.2 (.inl h)
theorem two_bit {p k : Nat} : (2 ^ p).testBit k = true ↔ k = p := by rw [Nat.testBit_two_pow, decide_eq_true_iff]; exact eq_comm
theorem SpA.put {n : Nat} {f : Nat → Nat → Nat → Int} {s t p : Nat} (h : SpA n f s t) (hp : p < n) (hs : Spr n f s p) : SpA n f s (t ||| 2 ^ p) := by
  refine ⟨Nat.or_lt_two_pow h.1 (Nat.pow_lt_pow_right (by omega) hp), fun k hk => ?_, fun k hk => sub_or _ (h.2.2.1 k hk), sub_or _ h.2.2.2⟩
  rcases or_bit.1 hk with hk | hk
  · exact h.2.1 k hk
  · rw [two_bit.1 hk]; exact hs
/-- t is what s spreads to -/
def SprTo (n : Nat) (f : Nat → Nat → Nat → Int) (s t : Nat) : Prop := SpA n f s t ∧ SpB n f s n t
theorem spr_is {n : Nat} {f : Nat → Nat → Nat → Int} (R : Rng n f) {s : Nat} (hs : s < 2 ^ n) {t : Nat} (h : SprTo n f s t) : t = s ↔ Sbr n f s := by
  constructor
  · rintro rfl
    refine ⟨hs, h.1.2.2.2, fun i j k hi hj hk bi bj hf => (h.2 i hi bi).2 j hj bj k hk hf⟩
  · intro hb
    refine sub_anti (fun k hk => ?_) h.1.2.2.1
    rcases h.1.2.1 k hk with h1 | h1 | ⟨i, hi, bi, rfl⟩ | ⟨hk, i, j, hi, hj, bi, bj, hf⟩
    · exact h1
    · rw [h1]; exact hb.2.1
    · exact sbr_dual R hb.2.2 hi bi
    · exact hb.2.2 i j k hi hj hk bi bj hf
theorem spr_sub {n : Nat} {f : Nat → Nat → Nat → Int} (R : Rng n f) {s t T : Nat} (h : SprTo n f s t) (hT : Sbr n f T) (hs : subS s T) : subS t T := by
  intro k hk
  rcases h.1.2.1 k hk with h1 | h1 | ⟨i, hi, bi, rfl⟩ | ⟨hk, i, j, hi, hj, bi, bj, hf⟩
  · exact hs k h1
  · rw [h1]; exact hT.2.1
  · exact sbr_dual R hT.2.2 hi (hs i bi)
  · exact hT.2.2 i j k hi hj hk (hs i bi) (hs j bj) hf
end Go.Proofs.Ytpfodikmidgpmaa
