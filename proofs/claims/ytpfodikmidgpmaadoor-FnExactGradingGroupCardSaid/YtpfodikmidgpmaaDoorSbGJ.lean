/- Merged: SbG, SbH, SbI, SbJ. -/
import Derived.Test.YtpfodikmidgpmaaDoorSbF
import Derived.Test.YtpfodikmidgpmaaDoorRgH
import Derived.Deep.RegionHeld3
/- Subrings of the specification: bits, what is spread, the least subring. -/
namespace Go.Proofs.YtpfodikmidgpmaaDoor
open Go.RowKit
set_option linter.unusedSimpArgs false
set_option linter.unusedVariables false
set_option maxRecDepth 100000 in
theorem l05Bit_f (s i : Nat) (hs : s < 65536) (hi : i ≤ 60) (w : World) :
    Calls Tryd.prog 29 #[.int .i64 s, .int .i64 i] w fun e w' => e = .returned (.bool (s.testBit i)) ∧ w = w' := by
  have HB := Lib.hid (bit_i64 (s := s) (by omega) i)
  go_enter Tryd.func29, Tryd.ntmps29
  go_wp2_with fail
  go_ret
  exact ⟨ret_bool HB.out, rfl⟩
/-- what a set spreads to -/
def Spr (n : Nat) (f : Nat → Nat → Nat → Int) (s k : Nat) : Prop :=
  s.testBit k = true ∨ k = 0 ∨ (∃ i, i < n ∧ s.testBit i = true ∧ k = dn n f i) ∨ (k < n ∧ ∃ i j, i < n ∧ j < n ∧ s.testBit i = true ∧ s.testBit j = true ∧ f i j k ≠ 0)
def SpA (n : Nat) (f : Nat → Nat → Nat → Int) (s t : Nat) : Prop := t < 2 ^ n ∧ (∀ k, t.testBit k = true → Spr n f s k) ∧ subS s t ∧ t.testBit 0 = true
def SpB (n : Nat) (f : Nat → Nat → Nat → Int) (s i t : Nat) : Prop := ∀ i', i' < i → s.testBit i' = true → t.testBit (dn n f i') = true ∧ ∀ j, j < n → s.testBit j = true → ∀ k, k < n → f i' j k ≠ 0 → t.testBit k = true
def SpC (n : Nat) (f : Nat → Nat → Nat → Int) (s i j t : Nat) : Prop := t.testBit (dn n f i) = true ∧ ∀ j', j' < j → s.testBit j' = true → ∀ k, k < n → f i j' k ≠ 0 → t.testBit k = true
def SpD (n : Nat) (f : Nat → Nat → Nat → Int) (i j kk t : Nat) : Prop := ∀ k, k < kk → k < n → f i j k ≠ 0 → t.testBit k = true
theorem SpB.up {n : Nat} {f : Nat → Nat → Nat → Int} {s i t t' : Nat} (h : SpB n f s i t) (hs : subS t t') : SpB n f s i t' :=
  fun i' hi hb => ⟨hs _ (h i' hi hb).1, fun j hj bj k hk hf => hs _ ((h i' hi hb).2 j hj bj k hk hf)⟩
theorem SpC.up {n : Nat} {f : Nat → Nat → Nat → Int} {s i j t t' : Nat} (h : SpC n f s i j t) (hs : subS t t') : SpC n f s i j t' :=
  ⟨hs _ h.1, fun j' hj bj k hk hf => hs _ (h.2 j' hj bj k hk hf)⟩
theorem SpD.up {n : Nat} {f : Nat → Nat → Nat → Int} {i j kk t t' : Nat} (h : SpD n f i j kk t) (hs : subS t t') : SpD n f i j kk t' :=
  fun k hk hn hf => hs _ (h k hk hn hf)
theorem sub_or {t p : Nat} : subS t (t ||| p) := fun _ h => or_bit.2 (.inl h)
theorem two_bit {p k : Nat} : (2 ^ p).testBit k = true ↔ k = p := by rw [Nat.testBit_two_pow, decide_eq_true_iff]; exact eq_comm
theorem SpA.put {n : Nat} {f : Nat → Nat → Nat → Int} {s t p : Nat} (h : SpA n f s t) (hp : p < n) (hs : Spr n f s p) : SpA n f s (t ||| 2 ^ p) := by
  refine ⟨Nat.or_lt_two_pow h.1 (Nat.pow_lt_pow_right (by omega) hp), fun k hk => ?_, fun k hk => sub_or _ (h.2.2.1 k hk), sub_or _ h.2.2.2⟩
  rcases or_bit.1 hk with hk | hk
  · exact h.2.1 k hk
  · rw [two_bit.1 hk]; exact hs
/-- t is what s spreads to -/
def SprTo (n : Nat) (f : Nat → Nat → Nat → Int) (s t : Nat) : Prop := SpA n f s t ∧ SpB n f s n t
theorem spr_is {n : Nat} {f : Nat → Nat → Nat → Int} (R : Rng n f) {s : Nat} (hs : s < 2 ^ n) {t : Nat} (h : SprTo n f s t) : t = s ↔ Sbr n f s := by
  constructor
  · rintro rfl
    refine ⟨hs, h.1.2.2.2, fun i j k hi hj hk bi bj hf => (h.2 i hi bi).2 j hj bj k hk hf⟩
  · intro hb
    refine sub_anti (fun k hk => ?_) h.1.2.2.1
    rcases h.1.2.1 k hk with h1 | h1 | ⟨i, hi, bi, rfl⟩ | ⟨hk, i, j, hi, hj, bi, bj, hf⟩
    · exact h1
    · rw [h1]; exact hb.2.1
    · exact sbr_dual R hb.2.2 hi bi
    · exact hb.2.2 i j k hi hj hk bi bj hf
theorem spr_sub {n : Nat} {f : Nat → Nat → Nat → Int} (R : Rng n f) {s t T : Nat} (h : SprTo n f s t) (hT : Sbr n f T) (hs : subS s T) : subS t T := by
  intro k hk
  rcases h.1.2.1 k hk with h1 | h1 | ⟨i, hi, bi, rfl⟩ | ⟨hk, i, j, hi, hj, bi, bj, hf⟩
  · exact hs k h1
  · rw [h1]; exact hT.2.1
  · exact sbr_dual R hT.2.2 hi (hs i bi)
  · exact hT.2.2 i j k hi hj hk (hs i bi) (hs j bj) hf
end Go.Proofs.YtpfodikmidgpmaaDoor
/- What a set of labels spreads to: of the specification. -/
namespace Go.Proofs.YtpfodikmidgpmaaDoor
open Go.RowKit
set_option linter.unusedSimpArgs false
set_option linter.unusedVariables false
set_option maxRecDepth 100000 in
set_option maxHeartbeats 4000000 in
theorem l05Spread_f (b off n c : Nat) (B O C : Nat → Nat) (B2 O2 C2 : Nat → Nat → Nat) (f : Nat → Nat → Nat → Int) (s : Nat) (w : World) (h : CubeAt w b off n B O C B2 O2 C2 f) (R : Rng n f) (hs : s < 2 ^ n) :
    Calls Tryd.prog 42 #[.agg #[.slice (some ⟨b, off, none⟩) n c], .int .i64 s] w fun e w' => ∃ t, e = .returned (.int .i64 (t : Nat)) ∧ SprTo n f s t ∧ Below w.heap.size w w' := by
  have HRg := Lib.hid R
  have h0 := R.h0
  have h16 := R.h16
  have hp := pow_le16 h16
  have h1n : 1 < 2 ^ n := Nat.one_lt_two_pow (by omega)
  have hs6 : s < 65536 := by omega
  obtain ⟨W, hW⟩ : ∃ W, W = w.alloc (.cells #[.slice (some ⟨b, off, none⟩) n c] 29) := ⟨_, rfl⟩
  have HWe := Lib.hid hW
  have HB := Lib.hid (show Below w.heap.size w W by rw [hW]; exact below_alloc w _)
  have HC := Lib.hid (h.below (show Below w.heap.size w W by rw [hW]; exact below_alloc w _))
  have E0 := Lib.hid (show W.cell? ⟨w.heap.size, 0, none⟩ = some (.slice (some ⟨b, off, none⟩) n c) by rw [hW]; exact cell_box _ _ _)
  have e0 := cell_box w (.slice (some ⟨b, off, none⟩) n c) 29
  have HBit := Lib.hid (fun i (hi : i < n) => l05Bit_f s i hs6 (by omega))
  have HA0 := Lib.hid (show SpA n f s (s ||| 1) from ⟨Nat.or_lt_two_pow hs h1n, fun k hk => (or_bit.1 hk).elim (fun h => .inl h) (fun h => .inr (.inl ((one_bit0 k).1 h))), sub_or, or_bit.2 (.inr ((one_bit0 0).2 rfl))⟩)
  have hor : bits .or .i64 (s : Int) 1 = ((s ||| 1 : Nat) : Int) := or_i64 (show s < 4611686018427387904 by omega) (show 1 < 4611686018427387904 by omega)
  clear hW h R
  go_enter Tryd.func42, Tryd.ntmps42
  go_wp2_with fail
  rw [← HWe.out] at e0 ⊢
  clear hor
  go_loop [5, 7] (fun v x => ∃ (i t : Nat), i ≤ n ∧ x = .int .i64 i ∧ v = .int .i64 t ∧ SpA n f s t ∧ SpB n f s i t) (fun _ x => n - (intOf x).toNat)
  case atStart => exact ⟨0, s ||| 1, by omega, rfl, rfl, HA0.out, fun i hi => absurd hi (by omega)⟩
  case round =>
    obtain ⟨i, t, hi, rfl, rfl, hA, hB⟩ := hrel
    have HA := Lib.hid hA
    have HBB := Lib.hid hB
    clear hA hB HA0
    by_cases hin : i < n
    · have HBi := Lib.hid (HBit.out i hin)
      cases hbi : s.testBit i
      · have HN := Lib.hid (show SpB n f s (i + 1) t from fun i' hi' hb => by
          by_cases e : i' = i
          · rw [e, hbi] at hb; cases hb
          · exact HBB.out i' (by omega) hb)
        go_wp2_with (go_at_call 29; refine (HBi.out _).mono ?_; rintro e w1 ⟨rfl, rfl⟩; rw [hbi])
        go_round
        case rel => exact ⟨i + 1, t, by omega, by go_num, rfl, HA.out, HN.out⟩
        case measure => simp [intOf]; omega
      · have HBI := Lib.hid hbi
        have hd := HRg.out.dlt i hin
        have hdc := HRg.out.dcast i hin
        have HDu := Lib.hid (l03Dual_f b off n c B O C B2 O2 C2 f i W HC.out (by omega) hin)
        rw [hdc] at HDu
        have HS1 := Lib.hid (show SpA n f s (t ||| 2 ^ dn n f i) from HA.out.put hd (.inr (.inr (.inl ⟨i, hin, hbi, rfl⟩))))
        have HS2 := Lib.hid (show SpC n f s i 0 (t ||| 2 ^ dn n f i) from ⟨or_bit.2 (.inr (two_bit.2 rfl)), fun j hj => absurd hj (by omega)⟩)
        have HS3 := Lib.hid (HBB.out.up (t' := t ||| 2 ^ dn n f i) sub_or)
        have ht := HA.out.1
        have hpd := pow_le16 (show dn n f i ≤ 16 by omega)
        have hsh := pow_i64 (show dn n f i ≤ 40 by omega)
        obtain ⟨d, hdd⟩ : ∃ d, d = dn n f i := ⟨_, rfl⟩
        rw [← hdd] at HDu HS1 HS2 HS3 hd hsh hpd
        obtain ⟨pd, hpd2⟩ : ∃ p, p = 2 ^ d := ⟨_, rfl⟩
        rw [← hpd2] at hsh HS1 HS2 HS3 hpd
        have hor := or_i64 (a := t) (b := pd) (Nat.lt_trans ht (Nat.lt_of_le_of_lt hp (by decide))) (Nat.lt_of_le_of_lt hpd (by decide))
        clear hdd hpd2 hdc
        obtain ⟨t0, ht0⟩ : ∃ t0, t0 = t ||| pd := ⟨_, rfl⟩
        rw [← ht0] at HS1 HS2 HS3 hor
        have e1 := (HC.out.row i hin).1
        have HCo := Lib.hid (fun j (hj : j < n) => (HC.out.col i j hin hj).1)
        have HNu := Lib.hid (fun j k (hj : j < n) (hk : k < n) => HC.out.num i j k hin hj hk)
        have HNn := Lib.hid (fun j k (hj : j < n) (hk : k < n) => HRg.out.num i j k hin hj hk)
        generalize B i = b1 at *
        generalize O i = o1 at *
        generalize C i = c1 at *
        go_wp2_with first | (go_at_call 29; refine (HBi.out _).mono ?_; rintro e w1 ⟨rfl, rfl⟩; rw [hbi]) | (go_at_call 30; refine HDu.out.mono ?_; rintro e w1 ⟨rfl, rfl⟩)
        have HT0 := Lib.hid ht0
        clear hor hsh ht0 ht
        go_loop [5, 8] (fun v x => ∃ (j t : Nat), j ≤ n ∧ x = .int .i64 j ∧ v = .int .i64 t ∧ SpA n f s t ∧ SpB n f s i t ∧ SpC n f s i j t) (fun _ x => n - (intOf x).toNat)
        case atStart => exact ⟨0, t0, by omega, rfl, by rw [HT0.out], HS1.out, HS3.out, HS2.out⟩
        case round =>
          obtain ⟨j, t1, hj, rfl, rfl, hA, hB, hC⟩ := hrel
          have HA1 := Lib.hid hA
          have HB1 := Lib.hid hB
          have HC1 := Lib.hid hC
          clear hA hB hC
          by_cases hjn : j < n
          · go_wp2_with fail
            go_loop [5, 9] (fun v x => ∃ (k t : Nat), k ≤ n ∧ x = .int .i64 k ∧ v = .int .i64 t ∧ SpA n f s t ∧ SpB n f s i t ∧ SpC n f s i j t ∧ (s.testBit j = true → SpD n f i j k t) ∧ (s.testBit j = false → k = 0)) (fun _ x => n - (intOf x).toNat)
            case atStart => exact ⟨0, t1, by omega, rfl, rfl, HA1.out, HB1.out, HC1.out, fun _ k hk => absurd hk (by omega), fun _ => rfl⟩
            case round =>
              obtain ⟨k, t2, hk, rfl, rfl, hA, hB, hC, hD, hE⟩ := hrel
              have HA2 := Lib.hid hA
              have HB2 := Lib.hid hB
              have HC2 := Lib.hid hC
              have HD2 := Lib.hid hD
              have HE2 := Lib.hid hE
              clear hA hB hC hD hE HA1 HB1 HC1
              have HBj := Lib.hid (HBit.out j hjn)
              by_cases hkn : k < n
              · cases hbj : s.testBit j
                · have HN := Lib.hid (show SpC n f s i (j + 1) t2 from ⟨HC2.out.1, fun j' hj' bj' k' hk' hf => by
                    by_cases e : j' = j
                    · rw [e, hbj] at bj'; cases bj'
                    · exact HC2.out.2 j' (by omega) bj' k' hk' hf⟩)
                  go_wp2_with (go_at_call 29; refine (HBj.out _).mono ?_; rintro e w1 ⟨rfl, rfl⟩; rw [hbj])
                  go_round
                  case rel => exact ⟨j + 1, t2, by omega, by go_num, rfl, HA2.out, HB2.out, HN.out⟩
                  case measure => simp [intOf]; omega
                · have e2 := HCo.out j hjn
                  have e3 := HNu.out j k hjn hkn
                  have hnn := (HNn.out j k hjn hkn).1
                  have HFz := Lib.hid (show f i j k = f i j k from rfl)
                  generalize B2 i j = b2 at *
                  generalize O2 i j = o2 at *
                  generalize C2 i j = c2 at *
                  by_cases hf : f i j k = 0
                  · have HN := Lib.hid (show SpD n f i j (k + 1) t2 from fun k' hk' hn' hf' => by
                      by_cases e : k' = k
                      · rw [e] at hf'; exact absurd hf hf'
                      · exact HD2.out hbj k' (by omega) hn' hf')
                    rw [hf] at e3
                    go_wp2_with (go_at_call 29; refine (HBj.out _).mono ?_; rintro e w1 ⟨rfl, rfl⟩; rw [hbj])
                    go_round
                    case rel => exact ⟨k + 1, t2, by omega, by go_num, rfl, HA2.out, HB2.out, HC2.out, fun _ => HN.out, fun h => (by cases h)⟩
                    case measure => simp [intOf]; omega
                  · have hpos : 0 < f i j k := by omega
                    have HS1 := Lib.hid (show SpA n f s (t2 ||| 2 ^ k) from HA2.out.put hkn (.inr (.inr (.inr ⟨hkn, i, j, hin, hjn, HBI.out, hbj, hf⟩))))
                    have HS2 := Lib.hid (HB2.out.up (t' := t2 ||| 2 ^ k) sub_or)
                    have HS3 := Lib.hid (HC2.out.up (t' := t2 ||| 2 ^ k) sub_or)
                    have HN := Lib.hid (show SpD n f i j (k + 1) (t2 ||| 2 ^ k) from fun k' hk' hn' hf' => by
                      by_cases e : k' = k
                      · rw [e]; exact or_bit.2 (.inr (two_bit.2 rfl))
                      · exact sub_or _ (HD2.out hbj k' (by omega) hn' hf'))
                    have ht := HA2.out.1
                    have hpd := pow_le16 (show k ≤ 16 by omega)
                    have hsh := pow_i64 (show k ≤ 40 by omega)
                    obtain ⟨pd, hpd2⟩ : ∃ p, p = 2 ^ k := ⟨_, rfl⟩
                    rw [← hpd2] at hsh HS1 HS2 HS3 HN hpd
                    have hor := or_i64 (a := t2) (b := pd) (Nat.lt_trans ht (Nat.lt_of_le_of_lt hp (by decide))) (Nat.lt_of_le_of_lt hpd (by decide))
                    clear hpd2 hf
                    generalize f i j k = y at *
                    go_wp2_with (go_at_call 29; refine (HBj.out _).mono ?_; rintro e w1 ⟨rfl, rfl⟩; rw [hbj])
                    go_round
                    case rel => exact ⟨k + 1, t2 ||| pd, by omega, by go_num, rfl, HS1.out, HS2.out, HS3.out, fun _ => HN.out, fun h => (by cases h)⟩
                    case measure => simp [intOf]; omega
              · obtain rfl : k = n := by omega
                have HN := Lib.hid (show SpC k f s i (j + 1) t2 from ⟨HC2.out.1, fun j' hj' bj' k' hk' hf => by
                  by_cases e : j' = j
                  · rw [e] at bj' hf; exact HD2.out bj' k' hk' hk' hf
                  · exact HC2.out.2 j' (by omega) bj' k' hk' hf⟩)
                go_wp2_with fail
                go_round
                case rel => exact ⟨j + 1, t2, by omega, by go_num, rfl, HA2.out, HB2.out, HN.out⟩
                case measure => simp [intOf]; omega
          · obtain rfl : j = n := by omega
            have HN := Lib.hid (show SpB j f s (i + 1) t1 from fun i' hi' hb => by
              by_cases e : i' = i
              · rw [e]; exact ⟨HC1.out.1, fun j' hj' bj k hk hf => HC1.out.2 j' hj' bj k hk hf⟩
              · exact HB1.out i' (by omega) hb)
            go_wp2_with fail
            go_round
            case rel => exact ⟨i + 1, t1, by omega, by go_num, rfl, HA1.out, HN.out⟩
            case measure => simp [intOf]; omega
    · obtain rfl : i = n := by omega
      go_wp2_with fail
      go_ret
      exact ⟨t, rfl, ⟨HA.out, HBB.out⟩, HB.out⟩
end Go.Proofs.YtpfodikmidgpmaaDoor
/- The least subring, and whether a set is a subring: of the specification. -/
namespace Go.Proofs.YtpfodikmidgpmaaDoor
open Go.RowKit
set_option linter.unusedSimpArgs false
set_option linter.unusedVariables false
theorem spr_less {n : Nat} {f : Nat → Nat → Nat → Int} {s t : Nat} (h : SprTo n f s t) (hne : t ≠ s) : s < t :=
  Nat.lt_of_le_of_ne (sub_le h.1.2.2.1) (Ne.symm hne)
set_option maxRecDepth 100000 in
set_option maxHeartbeats 1000000 in
theorem l05From_f (b off n c : Nat) (B O C : Nat → Nat) (B2 O2 C2 : Nat → Nat → Nat) (f : Nat → Nat → Nat → Int) (s : Nat) (w : World) (h : CubeAt w b off n B O C B2 O2 C2 f) (R : Rng n f) (hs : s < 2 ^ n) :
    Calls Tryd.prog 31 #[.agg #[.slice (some ⟨b, off, none⟩) n c], .int .i64 s] w fun e w' => ∃ g, e = .returned (.int .i64 (g : Nat)) ∧ IsGen n f s g ∧ Below w.heap.size w w' := by
  have HRg := Lib.hid R
  have h16 := R.h16
  have hp := pow_le16 h16
  obtain ⟨W, hW⟩ : ∃ W, W = w.alloc (.cells #[.slice (some ⟨b, off, none⟩) n c] 29) := ⟨_, rfl⟩
  have HWe := Lib.hid hW
  have HB := Lib.hid (show Below w.heap.size w W by rw [hW]; exact below_alloc w _)
  have HWs := Lib.hid (show W.heap.size = w.heap.size + 1 by rw [hW]; simp)
  have E0 := Lib.hid (show W.cell? ⟨w.heap.size, 0, none⟩ = some (.slice (some ⟨b, off, none⟩) n c) by rw [hW]; exact cell_box _ _ _)
  have e0 := cell_box w (.slice (some ⟨b, off, none⟩) n c) 29
  have HSp := Lib.hid (fun u (x : Nat) (hu : Below w.heap.size w u) (hx : x < 2 ^ n) => l05Spread_f b off n c B O C B2 O2 C2 f x u (h.below hu) R hx)
  clear hW h R
  go_enter Tryd.func31, Tryd.ntmps31
  go_wp2_with fail
  rw [← HWe.out] at e0 ⊢
  clear e0
  refine (HSp.out _ s HB.out hs).mono ?_
  rintro e w1 ⟨t0, rfl, ht0, hb1⟩
  have HT0 := Lib.hid ht0
  have HB1 := Lib.hid hb1
  clear ht0 hb1
  go_wp2_with fail
  go_loopw [1, 5] (fun v x wr => ∃ (a t : Nat), v = .int .i64 a ∧ x = .int .i64 t ∧ a < 2 ^ n ∧ SprTo n f a t ∧ subS s a ∧ (∀ T, Sbr n f T → subS s T → subS a T) ∧ Below W.heap.size W wr) (fun v _ _ => 65536 - (intOf v).toNat)
  case atStart => exact ⟨s, t0, rfl, rfl, hs, HT0.out, fun _ h => h, fun _ _ h => h, HB1.out⟩
  case round =>
    obtain ⟨a, t, rfl, rfl, ha, hS, hsub, hmin, hbw⟩ := hrel
    have HS := Lib.hid hS
    have HU := Lib.hid hsub
    have HM := Lib.hid hmin
    have HBw := Lib.hid hbw
    clear hS hsub hmin hbw
    have e0 : wr.cell? ⟨w.heap.size, 0, none⟩ = some (.slice (some ⟨b, off, none⟩) n c) := (HBw.out.cell (p := ⟨w.heap.size, 0, none⟩) (by rw [HWs.out]; show w.heap.size < _; omega)).trans E0.out
    have HBt := Lib.hid (HB.out.trans (HBw.out.mono HB.out.size))
    by_cases e : t = a
    · subst e
      have hd : ((t : Int) != (t : Int)) = false := by simp
      go_wp2_with fail
      go_ret
      exact ⟨t, rfl, ⟨(spr_is HRg.out ha HS.out).1 rfl, HU.out, HM.out⟩, HBt.out⟩
    · have hd : ((t : Int) != (a : Int)) = true := by simp; omega
      have hlt := spr_less HS.out e
      have ht := HS.out.1.1
      go_wp2_with fail
      clear e0
      refine (HSp.out _ t HBt.out ht).mono ?_
      rintro e w3 ⟨t3, rfl, ht3, hb3⟩
      have HT3 := Lib.hid ht3
      have HB3 := Lib.hid (HBw.out.trans (hb3.mono HBw.out.size))
      clear ht3 hb3
      go_wp2_with fail
      exact ⟨⟨t, t3, rfl, rfl, ht, HT3.out, fun k hk => HS.out.1.2.2.1 k (HU.out k hk), fun T hT hsT => spr_sub HRg.out HS.out hT (HM.out T hT hsT), HB3.out⟩, by simp [intOf]; omega⟩
end Go.Proofs.YtpfodikmidgpmaaDoor
/- The adjoint subring of the specification. -/
namespace Go.Proofs.YtpfodikmidgpmaaDoor
open Go.RowKit
set_option linter.unusedSimpArgs false
set_option linter.unusedVariables false
/-- all labels -/
def allS (n : Nat) : Nat := 2 ^ n - 1
theorem allS_bit {n i : Nat} : (allS n).testBit i = true ↔ i < n := by
  unfold allS
  rw [Nat.testBit_two_pow_sub_one, decide_eq_true_iff]
theorem allS_lt (n : Nat) : allS n < 2 ^ n := by
  unfold allS
  have : 0 < 2 ^ n := Nat.pow_pos (by omega)
  omega
theorem od_bit {n : Nat} {f : Nat → Nat → Nat → Int} (R : Rng n f) {i j k : Nat} (hi : i < n) (hj : j < n) : (od (occ n f) i j).testBit k = true ↔ j = dn n f i ∧ k < n ∧ f i j k ≠ 0 := by
  have hd : (occ n f i j).testBit 0 = true ↔ j = dn n f i := by
    rw [occ_bit]
    constructor
    · rintro ⟨_, h⟩
      refine Classical.byContradiction fun hne => h (R.d0 i j hi hj hne)
    · rintro rfl
      exact ⟨R.h0, by rw [R.d1 i hi]; omega⟩
  unfold od
  split
  · rename_i h
    rw [occ_bit]
    exact ⟨fun h' => ⟨hd.1 h, h'⟩, fun h' => h'.2⟩
  · rename_i h
    rw [Nat.zero_testBit]
    exact ⟨fun h' => (by cases h'), fun h' => absurd (hd.2 h'.1) h⟩
/-- what occurs in products of labels of s and their duals -/
noncomputable def adB (n : Nat) (f : Nat → Nat → Nat → Int) (s : Nat) : Nat := prl (od (occ n f)) (lbl s) (lbl s)
theorem adB_bit {n : Nat} {f : Nat → Nat → Nat → Int} (R : Rng n f) {s k : Nat} (hs : s < 2 ^ n) : (adB n f s).testBit k = true ↔ k < n ∧ ∃ i, i < n ∧ s.testBit i = true ∧ s.testBit (dn n f i) = true ∧ f i (dn n f i) k ≠ 0 := by
  have hp := pow_le16 R.h16
  have h6 : s < 65536 := by omega
  unfold adB
  rw [prl_bit]
  constructor
  · rintro ⟨i, hi, j, hj, hb⟩
    have bi := (mem_lbl h6).1 hi
    have bj := (mem_lbl h6).1 hj
    obtain ⟨rfl, hk, hf⟩ := (od_bit R (bit_lt hs bi) (bit_lt hs bj)).1 hb
    exact ⟨hk, i, bit_lt hs bi, bi, bj, hf⟩
  · rintro ⟨hk, i, hi, bi, bj, hf⟩
    exact ⟨i, (mem_lbl h6).2 bi, dn n f i, (mem_lbl h6).2 bj, (od_bit R hi (R.dlt i hi)).2 ⟨rfl, hk, hf⟩⟩
/-- what is in the products of labels and their duals, or is 0 -/
def AdU (n : Nat) (f : Nat → Nat → Nat → Int) (k : Nat) : Prop := k = 0 ∨ (k < n ∧ ∃ i, i < n ∧ f i (dn n f i) k ≠ 0)
theorem adB_all {n : Nat} {f : Nat → Nat → Nat → Int} (R : Rng n f) {t : Nat} (h1 : ∀ k, t.testBit k = true → AdU n f k) (h2 : ∀ i, i < n → ∀ k, k < n → f i (dn n f i) k ≠ 0 → t.testBit k = true) : t = adB n f (allS n) := by
  refine set_ext fun k => ?_
  rw [adB_bit R (allS_lt n)]
  constructor
  · intro h
    rcases h1 k h with rfl | ⟨hk, i, hi, hf⟩
    · exact ⟨R.h0, 0, R.h0, allS_bit.2 R.h0, allS_bit.2 (R.dlt 0 R.h0), by rw [R.d1 0 R.h0]; omega⟩
    · exact ⟨hk, i, hi, allS_bit.2 hi, allS_bit.2 (R.dlt i hi), hf⟩
  · rintro ⟨hk, i, hi, _, _, hf⟩
    exact h2 i hi k hk hf
set_option maxRecDepth 100000 in
set_option maxHeartbeats 4000000 in
theorem l05Adjoint_f (b off n c : Nat) (B O C : Nat → Nat) (B2 O2 C2 : Nat → Nat → Nat) (f : Nat → Nat → Nat → Int) (w : World) (h : CubeAt w b off n B O C B2 O2 C2 f) (R : Rng n f) :
    Calls Tryd.prog 16 #[.agg #[.slice (some ⟨b, off, none⟩) n c]] w fun e w' => ∃ g, e = .returned (.int .i64 (g : Nat)) ∧ IsGen n f (adB n f (allS n)) g ∧ Below w.heap.size w w' := by
  have HRg := Lib.hid R
  have h0 := R.h0
  have h16 := R.h16
  have hp := pow_le16 h16
  have h1n : 1 < 2 ^ n := Nat.one_lt_two_pow (by omega)
  obtain ⟨W, hW⟩ : ∃ W, W = w.alloc (.cells #[.slice (some ⟨b, off, none⟩) n c] 29) := ⟨_, rfl⟩
  have HWe := Lib.hid hW
  have HWs := Lib.hid (show W.heap.size = w.heap.size + 1 by rw [hW]; simp)
  have HB := Lib.hid (show Below w.heap.size w W by rw [hW]; exact below_alloc w _)
  have HC := Lib.hid (h.below (show Below w.heap.size w W by rw [hW]; exact below_alloc w _))
  have E0 := Lib.hid (show W.cell? ⟨w.heap.size, 0, none⟩ = some (.slice (some ⟨b, off, none⟩) n c) by rw [hW]; exact cell_box _ _ _)
  have HFr := Lib.hid (fun u (x : Nat) (hu : Below w.heap.size w u) (hx : x < 2 ^ n) => l05From_f b off n c B O C B2 O2 C2 f x u (h.below hu) R hx)
  clear hW h R
  go_enter Tryd.func16, Tryd.ntmps16
  go_wp2_with fail
  rw [← HWe.out]
  go_loopw [3, 4] (fun v x wr => ∃ (i t : Nat), i ≤ n ∧ x = .int .i64 i ∧ v = .int .i64 t ∧ t < 2 ^ n ∧ (∀ k, t.testBit k = true → AdU n f k) ∧ (∀ i', i' < i → ∀ k, k < n → f i' (dn n f i') k ≠ 0 → t.testBit k = true) ∧ Below W.heap.size W wr) (fun _ x _ => n - (intOf x).toNat)
  case atStart => exact ⟨0, 1, by omega, rfl, rfl, h1n, fun k hk => .inl ((one_bit0 k).1 hk), fun i hi => absurd hi (by omega), Below.refl _ _⟩
  case round =>
    obtain ⟨i, t, hi, rfl, rfl, ht, hU, hD, hbw⟩ := hrel
    have HU := Lib.hid hU
    have HD := Lib.hid hD
    have HBw := Lib.hid hbw
    clear hU hD hbw
    have e0 : wr.cell? ⟨w.heap.size, 0, none⟩ = some (.slice (some ⟨b, off, none⟩) n c) := (HBw.out.cell (p := ⟨w.heap.size, 0, none⟩) (by rw [HWs.out]; show w.heap.size < _; omega)).trans E0.out
    by_cases hin : i < n
    · have hd := HRg.out.dlt i hin
      have hdc := HRg.out.dcast i hin
      have HC2 := Lib.hid (HC.out.below HBw.out)
      have HDu := Lib.hid (fun u (hu : Below W.heap.size W u) => l03Dual_f b off n c B O C B2 O2 C2 f i u (HC.out.below hu) (by omega) hin)
      rw [hdc] at HDu
      have HAd := Lib.hid (show ∀ k, k < n → f i (dn n f i) k ≠ 0 → AdU n f k from fun k hk hf => .inr ⟨hk, i, hin, hf⟩)
      have HDi := Lib.hid (show ∀ t', subS t t' → (∀ k, k < n → f i (dn n f i) k ≠ 0 → t'.testBit k = true) → ∀ i', i' < i + 1 → ∀ k, k < n → f i' (dn n f i') k ≠ 0 → t'.testBit k = true from fun t' hs hn i' hi' k hk hf => by
        by_cases e : i' = i
        · rw [e] at hf; exact hn k hk hf
        · exact hs _ (HD.out i' (by omega) k hk hf))
      have HNn := Lib.hid (fun k (hk : k < n) => HRg.out.num i (dn n f i) k hin hd hk)
      have HRd := Lib.hid (HC2.out.rdRow hin hd)
      have KW := Lib.hid (show wr.cell? ⟨w.heap.size, 0, none⟩ = some (.slice (some ⟨b, off, none⟩) n c) ∧ wr.cell? ⟨b, off + i, none⟩ = some (.slice (some ⟨B i, O i, none⟩) n (C i)) ∧ wr.cell? ⟨B i, O i + dn n f i, none⟩ = some (.slice (some ⟨B2 i (dn n f i), O2 i (dn n f i), none⟩) n (C2 i (dn n f i))) from ⟨e0, (HC2.out.row i hin).1, (HC2.out.col i _ hin hd).1⟩)
      obtain ⟨d, hdd⟩ : ∃ d, d = dn n f i := ⟨_, rfl⟩
      rw [← hdd] at HDu HAd HDi HNn HRd KW hd
      clear hdd hdc
      generalize B i = b1 at *
      generalize O i = o1 at *
      generalize C i = c1 at *
      generalize B2 i d = b2 at *
      generalize O2 i d = o2 at *
      generalize C2 i d = c2 at *
      obtain ⟨F, hF⟩ : ∃ F, F = f i d := ⟨_, rfl⟩
      rw [← hF] at HAd HDi HNn HRd
      clear hF
      go_wp2_with fail
      clear e0
      go_region_held3 (fun u => u.cell? ⟨w.heap.size, 0, none⟩ = some (.slice (some ⟨b, off, none⟩) n c) ∧ u.cell? ⟨b, off + i, none⟩ = some (.slice (some ⟨b1, o1, none⟩) n c1) ∧ u.cell? ⟨b1, o1 + d, none⟩ = some (.slice (some ⟨b2, o2, none⟩) n c2)) (exact KW.out) (first | (go_at_call 30; refine (HDu.out _ HBw.out.drew).mono ?_; rintro e w5 ⟨rfl, rfl⟩))
      obtain ⟨wd, hwd⟩ : ∃ u, u = wr.drew := ⟨_, rfl⟩
      have HBd := Lib.hid (show Below W.heap.size W wd by rw [hwd]; exact HBw.out.drew)
      have HRc := Lib.hid (show ∀ k, k < n → wd.cell? ⟨b2, o2 + k, none⟩ = some (.int .i64 (F k)) by
        rw [hwd]
        obtain ⟨b', off', e, _, hc⟩ := HRd.out.open h0
        cases e
        exact hc)
      rw [← hwd]
      clear hwd
      go_wp2_with fail
      go_loop [3, 6] (fun v x => ∃ (k t2 : Nat), k ≤ n ∧ x = .int .i64 k ∧ v = .int .i64 t2 ∧ t2 < 2 ^ n ∧ (∀ k, t2.testBit k = true → AdU n f k) ∧ subS t t2 ∧ (∀ k', k' < k → F k' ≠ 0 → t2.testBit k' = true)) (fun _ x => n - (intOf x).toNat)
      case atStart => exact ⟨0, t, by omega, rfl, rfl, ht, HU.out, fun _ h => h, fun k hk => absurd hk (by omega)⟩
      case round =>
        obtain ⟨k, t2, hk, rfl, rfl, ht2, hU2, hS2, hD2⟩ := hrel
        have HU2 := Lib.hid hU2
        have HS2 := Lib.hid hS2
        have HD2 := Lib.hid hD2
        clear hU2 hS2 hD2
        by_cases hkn : k < n
        · have e3 := HRc.out k hkn
          have hnn := (HNn.out k hkn).1
          by_cases hf : F k = 0
          · have HN := Lib.hid (show ∀ k', k' < k + 1 → F k' ≠ 0 → t2.testBit k' = true from fun k' hk' hf' => by
              by_cases e : k' = k
              · rw [e] at hf'; exact absurd hf hf'
              · exact HD2.out k' (by omega) hf')
            rw [hf] at e3
            go_wp2_with fail
            go_round
            case rel => exact ⟨k + 1, t2, by omega, by go_num, rfl, ht2, HU2.out, HS2.out, HN.out⟩
            case measure => simp [intOf]; omega
          · have hpos : 0 < F k := by omega
            have HN := Lib.hid (show ∀ k', k' < k + 1 → F k' ≠ 0 → (t2 ||| 2 ^ k).testBit k' = true from fun k' hk' hf' => by
              by_cases e : k' = k
              · rw [e]; exact or_bit.2 (.inr (two_bit.2 rfl))
              · exact sub_or _ (HD2.out k' (by omega) hf'))
            have HU3 := Lib.hid (show ∀ q, (t2 ||| 2 ^ k).testBit q = true → AdU n f q from fun q hq => by
              rcases or_bit.1 hq with hq | hq
              · exact HU2.out q hq
              · rw [two_bit.1 hq]; exact HAd.out k hkn hf)
            have HS3 := Lib.hid (show subS t (t2 ||| 2 ^ k) from fun q hq => sub_or _ (HS2.out q hq))
            have HL3 := Lib.hid (show t2 ||| 2 ^ k < 2 ^ n from Nat.or_lt_two_pow ht2 (Nat.pow_lt_pow_right (by omega) hkn))
            have hpd := pow_le16 (show k ≤ 16 by omega)
            have hsh := pow_i64 (show k ≤ 40 by omega)
            obtain ⟨pd, hpd2⟩ : ∃ p, p = 2 ^ k := ⟨_, rfl⟩
            rw [← hpd2] at hsh HN HU3 HS3 HL3 hpd
            have hor := or_i64 (a := t2) (b := pd) (Nat.lt_trans ht2 (Nat.lt_of_le_of_lt hp (by decide))) (Nat.lt_of_le_of_lt hpd (by decide))
            clear hpd2 hf
            generalize F k = y at *
            go_wp2_with fail
            go_round
            case rel => exact ⟨k + 1, t2 ||| pd, by omega, by go_num, rfl, HL3.out, HU3.out, HS3.out, HN.out⟩
            case measure => simp [intOf]; omega
        · obtain rfl : k = n := by omega
          have HD3 := Lib.hid (HDi.out t2 HS2.out fun k hk hf => HD2.out k hk hf)
          go_wp2_with fail
          go_roundw
          case rel => exact ⟨i + 1, t2, by omega, by go_num, rfl, ht2, HU2.out, HD3.out, HBd.out⟩
          case measure => simp [intOf]; omega
    · obtain rfl : i = n := by omega
      have HT := Lib.hid (adB_all HRg.out HU.out HD.out)
      have HBt := Lib.hid (HB.out.trans (HBw.out.mono HB.out.size))
      go_wp2_with fail
      clear e0
      refine (HFr.out _ t HBt.out ht).mono ?_
      rintro e w3 ⟨g, rfl, hg, hb3⟩
      have HG := Lib.hid hg
      have HB3 := Lib.hid (HBt.out.trans (hb3.mono HBt.out.size))
      clear hg hb3
      go_wp2_with fail
      go_ret
      exact ⟨g, rfl, by rw [← HT.out]; exact HG.out, HB3.out⟩
end Go.Proofs.YtpfodikmidgpmaaDoor
