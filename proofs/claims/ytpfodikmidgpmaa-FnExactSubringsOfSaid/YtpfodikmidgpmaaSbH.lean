/- What a set of labels spreads to: of the specification. -/
import Derived.Test.YtpfodikmidgpmaaSbG
namespace Go.Proofs.Ytpfodikmidgpmaa
open Go.RowKit
set_option linter.unusedSimpArgs false
set_option linter.unusedVariables false
set_option maxRecDepth 100000 in
set_option maxHeartbeats 4000000 in
theorem l05Spread_f (b off n c : Nat) (B O C : Nat → Nat) (B2 O2 C2 : Nat → Nat → Nat) (f : Nat → Nat → Nat → Int) (s : Nat) (w : World) (h : CubeAt w b off n B O C B2 O2 C2 f) (R : Rng n f) (hs : s < 2 ^ n) :
    Calls Try.prog 82 #[.agg #[.slice (some ⟨b, off, none⟩) n c], .int .i64 s] w fun e w' => ∃ t, e = .returned (.int .i64 (t : Nat)) ∧ SprTo n f s t ∧ Below w.heap.size w w' := by
  have HRg := Lib.hid R
  have h0 := R.h0
  have h16 := R.h16
  have hp := pow_le16 h16
  have h1n : 1 < 2 ^ n := Nat.one_lt_two_pow (by omega)
  have hs6 : s < 65536 := by omega
  obtain ⟨W, hW⟩ : ∃ W, W = w.alloc (.cells #[.slice (some ⟨b, off, none⟩) n c] 28) := ⟨_, rfl⟩
  have HWe := Lib.hid hW
  have HB := Lib.hid (show Below w.heap.size w W by rw [hW]; exact below_alloc w _)
  have HC := Lib.hid (h.below (show Below w.heap.size w W by rw [hW]; exact below_alloc w _))
  have E0 := Lib.hid (show W.cell? ⟨w.heap.size, 0, none⟩ = some (.slice (some ⟨b, off, none⟩) n c) by rw [hW]; exact cell_box _ _ _)
  have e0 := cell_box w (.slice (some ⟨b, off, none⟩) n c) 28
  have HBit := Lib.hid (fun i (hi : i < n) => l05Bit_f s i hs6 (by omega))
  have HA0 := Lib.hid (show SpA n f s (s ||| 1) from ⟨Nat.or_lt_two_pow hs h1n, fun k hk => (or_bit.1 hk).elim (fun h => .inl h) (fun h => .inr (.inl ((one_bit0 k).1 h))), sub_or, or_bit.2 (.inr ((one_bit0 0).2 rfl))⟩)
  have hor : bits .or .i64 (s : Int) 1 = ((s ||| 1 : Nat) : Int) := or_i64 (show s < 4611686018427387904 by omega) (show 1 < 4611686018427387904 by omega)
  clear hW h R
  go_enter Try.func82, Try.ntmps82
  go_wp2_with fail
  rw [← HWe.out] at e0 ⊢
  clear hor
  go_loop [5, 7] (fun v x => ∃ (i t : Nat), i ≤ n ∧ x = .int .i64 i ∧ v = .int .i64 t ∧ SpA n f s t ∧ SpB n f s i t) (fun _ x => n - (intOf x).toNat)
  case atStart => exact ⟨0, s ||| 1, by omega, rfl, rfl, HA0.out, fun i hi => absurd hi (by omega)⟩
  case round =>
    obtain ⟨i, t, hi, rfl, rfl, hA, hB⟩ := hrel
    have HA := Lib.hid hA
    have HBB := Lib.hid hB
    clear hA hB HA0
    by_cases hin : i < n
    · have HBi := Lib.hid (HBit.out i hin)
      cases hbi : s.testBit i
      · have HN := Lib.hid (show SpB n f s (i + 1) t from fun i' hi' hb => by
          by_cases e : i' = i
          · rw [e, hbi] at hb; cases hb
          · exact HBB.out i' (by omega) hb)
        go_wp2_with (go_at_call 103; refine (HBi.out _).mono ?_; rintro e w1 ⟨rfl, rfl⟩; rw [hbi])
        go_round
        case rel => exact ⟨i + 1, t, by omega, by go_num, rfl, HA.out, HN.out⟩
        case measure => simp [intOf]; omega
      · have HBI := Lib.hid hbi
        have hd := HRg.out.dlt i hin
        have hdc := HRg.out.dcast i hin
        have HDu := Lib.hid (l03Dual_f b off n c B O C B2 O2 C2 f i W HC.out (by omega) hin)
        rw [hdc] at HDu
        have HS1 := Lib.hid (show SpA n f s (t ||| 2 ^ dn n f i) from HA.out.put hd (.inr (.inr (.inl ⟨i, hin, hbi, rfl⟩))))
        have HS2 := Lib.hid (show SpC n f s i 0 (t ||| 2 ^ dn n f i) from ⟨or_bit.2 (.inr (two_bit.2 rfl)), fun j hj => absurd hj (by omega)⟩)
        have HS3 := Lib.hid (HBB.out.up (t' := t ||| 2 ^ dn n f i) sub_or)
        have ht := HA.out.1
        have hpd := pow_le16 (show dn n f i ≤ 16 by omega)
        have hsh := pow_i64 (show dn n f i ≤ 40 by omega)
        obtain ⟨d, hdd⟩ : ∃ d, d = dn n f i := ⟨_, rfl⟩
        rw [← hdd] at HDu HS1 HS2 HS3 hd hsh hpd
        obtain ⟨pd, hpd2⟩ : ∃ p, p = 2 ^ d := ⟨_, rfl⟩
        rw [← hpd2] at hsh HS1 HS2 HS3 hpd
        have hor := or_i64 (a := t) (b := pd) (Nat.lt_trans ht (Nat.lt_of_le_of_lt hp (by decide))) (Nat.lt_of_le_of_lt hpd (by decide))
        clear hdd hpd2 hdc
        obtain ⟨t0, ht0⟩ : ∃ t0, t0 = t ||| pd := ⟨_, rfl⟩
        rw [← ht0] at HS1 HS2 HS3 hor
        have e1 := (HC.out.row i hin).1
        have HCo := Lib.hid (fun j (hj : j < n) => (HC.out.col i j hin hj).1)
        have HNu := Lib.hid (fun j k (hj : j < n) (hk : k < n) => HC.out.num i j k hin hj hk)
        have HNn := Lib.hid (fun j k (hj : j < n) (hk : k < n) => HRg.out.num i j k hin hj hk)
        generalize B i = b1 at *
        generalize O i = o1 at *
        generalize C i = c1 at *
        go_wp2_with first | (go_at_call 103; refine (HBi.out _).mono ?_; rintro e w1 ⟨rfl, rfl⟩; rw [hbi]) | (go_at_call 102; refine HDu.out.mono ?_; rintro e w1 ⟨rfl, rfl⟩)
        have HT0 := Lib.hid ht0
        clear hor hsh ht0 ht
        go_loop [5, 8] (fun v x => ∃ (j t : Nat), j ≤ n ∧ x = .int .i64 j ∧ v = .int .i64 t ∧ SpA n f s t ∧ SpB n f s i t ∧ SpC n f s i j t) (fun _ x => n - (intOf x).toNat)
        case atStart => exact ⟨0, t0, by omega, rfl, by rw [HT0.out], HS1.out, HS3.out, HS2.out⟩
        case round =>
          obtain ⟨j, t1, hj, rfl, rfl, hA, hB, hC⟩ := hrel
          have HA1 := Lib.hid hA
          have HB1 := Lib.hid hB
          have HC1 := Lib.hid hC
          clear hA hB hC
          by_cases hjn : j < n
          · go_wp2_with fail
            go_loop [5, 9] (fun v x => ∃ (k t : Nat), k ≤ n ∧ x = .int .i64 k ∧ v = .int .i64 t ∧ SpA n f s t ∧ SpB n f s i t ∧ SpC n f s i j t ∧ (s.testBit j = true → SpD n f i j k t) ∧ (s.testBit j = false → k = 0)) (fun _ x => n - (intOf x).toNat)
            case atStart => exact ⟨0, t1, by omega, rfl, rfl, HA1.out, HB1.out, HC1.out, fun _ k hk => absurd hk (by omega), fun _ => rfl⟩
            case round =>
              obtain ⟨k, t2, hk, rfl, rfl, hA, hB, hC, hD, hE⟩ := hrel
              have HA2 := Lib.hid hA
              have HB2 := Lib.hid hB
              have HC2 := Lib.hid hC
              have HD2 := Lib.hid hD
              have HE2 := Lib.hid hE
              clear hA hB hC hD hE HA1 HB1 HC1
              have HBj := Lib.hid (HBit.out j hjn)
              by_cases hkn : k < n
              · cases hbj : s.testBit j
                · have HN := Lib.hid (show SpC n f s i (j + 1) t2 from ⟨HC2.out.1, fun j' hj' bj' k' hk' hf => by
                    by_cases e : j' = j
                    · rw [e, hbj] at bj'; cases bj'
                    · exact HC2.out.2 j' (by omega) bj' k' hk' hf⟩)
                  go_wp2_with (go_at_call 103; refine (HBj.out _).mono ?_; rintro e w1 ⟨rfl, rfl⟩; rw [hbj])
                  go_round
                  case rel => exact ⟨j + 1, t2, by omega, by go_num, rfl, HA2.out, HB2.out, HN.out⟩
                  case measure => simp [intOf]; omega
                · have e2 := HCo.out j hjn
                  have e3 := HNu.out j k hjn hkn
                  have hnn := (HNn.out j k hjn hkn).1
                  have HFz := Lib.hid (show f i j k = f i j k from rfl)
                  generalize B2 i j = b2 at *
                  generalize O2 i j = o2 at *
                  generalize C2 i j = c2 at *
                  by_cases hf : f i j k = 0
                  · have HN := Lib.hid (show SpD n f i j (k + 1) t2 from fun k' hk' hn' hf' => by
                      by_cases e : k' = k
                      · rw [e] at hf'; exact absurd hf hf'
                      · exact HD2.out hbj k' (by omega) hn' hf')
                    rw [hf] at e3
                    go_wp2_with (go_at_call 103; refine (HBj.out _).mono ?_; rintro e w1 ⟨rfl, rfl⟩; rw [hbj])
                    go_round
                    case rel => exact ⟨k + 1, t2, by omega, by go_num, rfl, HA2.out, HB2.out, HC2.out, fun _ => HN.out, fun h => (by cases h)⟩
                    case measure => simp [intOf]; omega
                  · have hpos : 0 < f i j k := by omega
                    have HS1 := Lib.hid (show SpA n f s (t2 ||| 2 ^ k) from HA2.out.put hkn (.inr (.inr (.inr ⟨hkn, i, j, hin, hjn, HBI.out, hbj, hf⟩))))
                    have HS2 := Lib.hid (HB2.out.up (t' := t2 ||| 2 ^ k) sub_or)
                    have HS3 := Lib.hid (HC2.out.up (t' := t2 ||| 2 ^ k) sub_or)
                    have HN := Lib.hid (show SpD n f i j (k + 1) (t2 ||| 2 ^ k) from fun k' hk' hn' hf' => by
                      by_cases e : k' = k
                      · rw [e]; exact or_bit.2 (.inr (two_bit.2 rfl))
                      · exact sub_or _ (HD2.out hbj k' (by omega) hn' hf'))
                    have ht := HA2.out.1
                    have hpd := pow_le16 (show k ≤ 16 by omega)
                    have hsh := pow_i64 (show k ≤ 40 by omega)
                    obtain ⟨pd, hpd2⟩ : ∃ p, p = 2 ^ k := ⟨_, rfl⟩
                    rw [← hpd2] at hsh HS1 HS2 HS3 HN hpd
                    have hor := or_i64 (a := t2) (b := pd) (Nat.lt_trans ht (Nat.lt_of_le_of_lt hp (by decide))) (Nat.lt_of_le_of_lt hpd (by decide))
                    clear hpd2 hf
                    generalize f i j k = y at *
                    go_wp2_with (go_at_call 103; refine (HBj.out _).mono ?_; rintro e w1 ⟨rfl, rfl⟩; rw [hbj])
                    go_round
                    case rel => exact ⟨k + 1, t2 ||| pd, by omega, by go_num, rfl, HS1.out, HS2.out, HS3.out, fun _ => HN.out, fun h => (by cases h)⟩
                    case measure => simp [intOf]; omega
              · obtain rfl : k = n := by omega
                have HN := Lib.hid (show SpC k f s i (j + 1) t2 from ⟨HC2.out.1, fun j' hj' bj' k' hk' hf => by
                  by_cases e : j' = j
                  · rw [e] at bj' hf; exact HD2.out bj' k' hk' hk' hf
                  · exact HC2.out.2 j' (by omega) bj' k' hk' hf⟩)
                go_wp2_with fail
                go_round
                case rel => exact ⟨j + 1, t2, by omega, by go_num, rfl, HA2.out, HB2.out, HN.out⟩
                case measure => simp [intOf]; omega
          · obtain rfl : j = n := by omega
            have HN := Lib.hid (show SpB j f s (i + 1) t1 from fun i' hi' hb => by
              by_cases e : i' = i
              · rw [e]; exact ⟨HC1.out.1, fun j' hj' bj k hk hf => HC1.out.2 j' hj' bj k hk hf⟩
              · exact HB1.out i' (by omega) hb)
            go_wp2_with fail
            go_round
            case rel => exact ⟨i + 1, t1, by omega, by go_num, rfl, HA1.out, HN.out⟩
            case measure => simp [intOf]; omega
    · obtain rfl : i = n := by omega
      go_wp2_with fail
      go_ret
      exact ⟨t, rfl, ⟨HA.out, HBB.out⟩, HB.out⟩
end Go.Proofs.Ytpfodikmidgpmaa
