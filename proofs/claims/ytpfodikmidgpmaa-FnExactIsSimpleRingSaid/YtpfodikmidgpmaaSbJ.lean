/- The adjoint subring of the specification. -/
import Derived.Test.YtpfodikmidgpmaaSbI
import Derived.Deep.RegionHeld3
namespace Go.Proofs.Ytpfodikmidgpmaa
open Go.RowKit
set_option linter.unusedSimpArgs false
set_option linter.unusedVariables false
/-- all labels -/
def allS (n : Nat) : Nat := 2 ^ n - 1
theorem allS_bit {n i : Nat} : (allS n).testBit i = true ↔ i < n := by
  unfold allS
  rw [Nat.testBit_two_pow_sub_one, decide_eq_true_iff]
theorem allS_lt (n : Nat) : allS n < 2 ^ n := by
  unfold allS
  have : 0 < 2 ^ n := Nat.pow_pos (by omega)
  omega
theorem od_bit {n : Nat} {f : Nat → Nat → Nat → Int} (R : Rng n f) {i j k : Nat} (hi : i < n) (hj : j < n) : (od (occ n f) i j).testBit k = true ↔ j = dn n f i ∧ k < n ∧ f i j k ≠ 0 := by
  have hd : (occ n f i j).testBit 0 = true ↔ j = dn n f i := by
    rw [occ_bit]
    constructor
    · rintro ⟨_, h⟩
      refine Classical.byContradiction fun hne => h (R.d0 i j hi hj hne)
    · rintro rfl
      exact ⟨R.h0, by rw [R.d1 i hi]; omega⟩
  unfold od
  split
  · rename_i h
    rw [occ_bit]
    exact ⟨fun h' => ⟨hd.1 h, h'⟩, fun h' => h'.2⟩
  · rename_i h
    rw [Nat.zero_testBit]
    exact ⟨fun h' => (by cases h'), fun h' => absurd (hd.2 h'.1) h⟩
/-- what occurs in products of labels of s and their duals -/
noncomputable def adB (n : Nat) (f : Nat → Nat → Nat → Int) (s : Nat) : Nat := prl (od (occ n f)) (lbl s) (lbl s)
theorem adB_bit {n : Nat} {f : Nat → Nat → Nat → Int} (R : Rng n f) {s k : Nat} (hs : s < 2 ^ n) : (adB n f s).testBit k = true ↔ k < n ∧ ∃ i, i < n ∧ s.testBit i = true ∧ s.testBit (dn n f i) = true ∧ f i (dn n f i) k ≠ 0 := by
  have hp := pow_le16 R.h16
  have h6 : s < 65536 := by omega
  unfold adB
  rw [prl_bit]
  constructor
  · rintro ⟨i, hi, j, hj, hb⟩
    have bi := (mem_lbl h6).1 hi
    have bj := (mem_lbl h6).1 hj
    obtain ⟨rfl, hk, hf⟩ := (od_bit R (bit_lt hs bi) (bit_lt hs bj)).1 hb
    exact ⟨hk, i, bit_lt hs bi, bi, bj, hf⟩
  · rintro ⟨hk, i, hi, bi, bj, hf⟩
    exact ⟨i, (mem_lbl h6).2 bi, dn n f i, (mem_lbl h6).2 bj, (od_bit R hi (R.dlt i hi)).2 ⟨rfl, hk, hf⟩⟩
/-- what is in the products of labels and their duals, or is 0 -/
def AdU (n : Nat) (f : Nat → Nat → Nat → Int) (k : Nat) : Prop := k = 0 ∨ (k < n ∧ ∃ i, i < n ∧ f i (dn n f i) k ≠ 0)
theorem adB_all {n : Nat} {f : Nat → Nat → Nat → Int} (R : Rng n f) {t : Nat} (h1 : ∀ k, t.testBit k = true → AdU n f k) (h2 : ∀ i, i < n → ∀ k, k < n → f i (dn n f i) k ≠ 0 → t.testBit k = true) : t = adB n f (allS n) := by
  refine set_ext fun k => ?_
  rw [adB_bit R (allS_lt n)]
  constructor
  · intro h
    rcases h1 k h with rfl | ⟨hk, i, hi, hf⟩
    · exact ⟨R.h0, 0, R.h0, allS_bit.2 R.h0, allS_bit.2 (R.dlt 0 R.h0), by rw [R.d1 0 R.h0]; omega⟩
    · exact ⟨hk, i, hi, allS_bit.2 hi, allS_bit.2 (R.dlt i hi), hf⟩
  · rintro ⟨hk, i, hi, _, _, hf⟩
    exact h2 i hi k hk hf
set_option maxRecDepth 100000 in
set_option maxHeartbeats 4000000 in
theorem l05Adjoint_f (b off n c : Nat) (B O C : Nat → Nat) (B2 O2 C2 : Nat → Nat → Nat) (f : Nat → Nat → Nat → Int) (w : World) (h : CubeAt w b off n B O C B2 O2 C2 f) (R : Rng n f) :
    Calls Try.prog 69 #[.agg #[.slice (some ⟨b, off, none⟩) n c]] w fun e w' => ∃ g, e = .returned (.int .i64 (g : Nat)) ∧ IsGen n f (adB n f (allS n)) g ∧ Below w.heap.size w w' := by
  have HRg := Lib.hid R
  have h0 := R.h0
  have h16 := R.h16
  have hp := pow_le16 h16
  have h1n : 1 < 2 ^ n := Nat.one_lt_two_pow (by omega)
  obtain ⟨W, hW⟩ : ∃ W, W = w.alloc (.cells #[.slice (some ⟨b, off, none⟩) n c] 28) := ⟨_, rfl⟩
  have HWe := Lib.hid hW
  have HWs := Lib.hid (show W.heap.size = w.heap.size + 1 by rw [hW]; simp)
  have HB := Lib.hid (show Below w.heap.size w W by rw [hW]; exact below_alloc w _)
  have HC := Lib.hid (h.below (show Below w.heap.size w W by rw [hW]; exact below_alloc w _))
  have E0 := Lib.hid (show W.cell? ⟨w.heap.size, 0, none⟩ = some (.slice (some ⟨b, off, none⟩) n c) by rw [hW]; exact cell_box _ _ _)
  have HFr := Lib.hid (fun u (x : Nat) (hu : Below w.heap.size w u) (hx : x < 2 ^ n) => l05From_f b off n c B O C B2 O2 C2 f x u (h.below hu) R hx)
  clear hW h R
  go_enter Try.func69, Try.ntmps69
  go_wp2_with fail
  rw [← HWe.out]
  go_loopw [3, 4] (fun v x wr => ∃ (i t : Nat), i ≤ n ∧ x = .int .i64 i ∧ v = .int .i64 t ∧ t < 2 ^ n ∧ (∀ k, t.testBit k = true → AdU n f k) ∧ (∀ i', i' < i → ∀ k, k < n → f i' (dn n f i') k ≠ 0 → t.testBit k = true) ∧ Below W.heap.size W wr) (fun _ x _ => n - (intOf x).toNat)
  case atStart => exact ⟨0, 1, by omega, rfl, rfl, h1n, fun k hk => .inl ((one_bit0 k).1 hk), fun i hi => absurd hi (by omega), Below.refl _ _⟩
  case round =>
    obtain ⟨i, t, hi, rfl, rfl, ht, hU, hD, hbw⟩ := hrel
    have HU := Lib.hid hU
    have HD := Lib.hid hD
    have HBw := Lib.hid hbw
    clear hU hD hbw
    have e0 : wr.cell? ⟨w.heap.size, 0, none⟩ = some (.slice (some ⟨b, off, none⟩) n c) := (HBw.out.cell (p := ⟨w.heap.size, 0, none⟩) (by rw [HWs.out]; show w.heap.size < _; omega)).trans E0.out
    by_cases hin : i < n
    · have hd := HRg.out.dlt i hin
      have hdc := HRg.out.dcast i hin
      have HC2 := Lib.hid (HC.out.below HBw.out)
      have HDu := Lib.hid (fun u (hu : Below W.heap.size W u) => l03Dual_f b off n c B O C B2 O2 C2 f i u (HC.out.below hu) (by omega) hin)
      rw [hdc] at HDu
      have HAd := Lib.hid (show ∀ k, k < n → f i (dn n f i) k ≠ 0 → AdU n f k from fun k hk hf => .inr ⟨hk, i, hin, hf⟩)
      have HDi := Lib.hid (show ∀ t', subS t t' → (∀ k, k < n → f i (dn n f i) k ≠ 0 → t'.testBit k = true) → ∀ i', i' < i + 1 → ∀ k, k < n → f i' (dn n f i') k ≠ 0 → t'.testBit k = true from fun t' hs hn i' hi' k hk hf => by
        by_cases e : i' = i
        · rw [e] at hf; exact hn k hk hf
        · exact hs _ (HD.out i' (by omega) k hk hf))
      have HNn := Lib.hid (fun k (hk : k < n) => HRg.out.num i (dn n f i) k hin hd hk)
      have HRd := Lib.hid (HC2.out.rdRow hin hd)
      have KW := Lib.hid (show wr.cell? ⟨w.heap.size, 0, none⟩ = some (.slice (some ⟨b, off, none⟩) n c) ∧ wr.cell? ⟨b, off + i, none⟩ = some (.slice (some ⟨B i, O i, none⟩) n (C i)) ∧ wr.cell? ⟨B i, O i + dn n f i, none⟩ = some (.slice (some ⟨B2 i (dn n f i), O2 i (dn n f i), none⟩) n (C2 i (dn n f i))) from ⟨e0, (HC2.out.row i hin).1, (HC2.out.col i _ hin hd).1⟩)
      obtain ⟨d, hdd⟩ : ∃ d, d = dn n f i := ⟨_, rfl⟩
      rw [← hdd] at HDu HAd HDi HNn HRd KW hd
      clear hdd hdc
      generalize B i = b1 at *
      generalize O i = o1 at *
      generalize C i = c1 at *
      generalize B2 i d = b2 at *
      generalize O2 i d = o2 at *
      generalize C2 i d = c2 at *
      obtain ⟨F, hF⟩ : ∃ F, F = f i d := ⟨_, rfl⟩
      rw [← hF] at HAd HDi HNn HRd
      clear hF
      go_wp2_with fail
      clear e0
      go_region_held3 (fun u => u.cell? ⟨w.heap.size, 0, none⟩ = some (.slice (some ⟨b, off, none⟩) n c) ∧ u.cell? ⟨b, off + i, none⟩ = some (.slice (some ⟨b1, o1, none⟩) n c1) ∧ u.cell? ⟨b1, o1 + d, none⟩ = some (.slice (some ⟨b2, o2, none⟩) n c2)) (exact KW.out) (first | (go_at_call 102; refine (HDu.out _ HBw.out.drew).mono ?_; rintro e w5 ⟨rfl, rfl⟩))
      obtain ⟨wd, hwd⟩ : ∃ u, u = wr.drew := ⟨_, rfl⟩
      have HBd := Lib.hid (show Below W.heap.size W wd by rw [hwd]; exact HBw.out.drew)
      have HRc := Lib.hid (show ∀ k, k < n → wd.cell? ⟨b2, o2 + k, none⟩ = some (.int .i64 (F k)) by
        rw [hwd]
        obtain ⟨b', off', e, _, hc⟩ := HRd.out.open h0
        cases e
        exact hc)
      rw [← hwd]
      clear hwd
      go_wp2_with fail
      go_loop [3, 6] (fun v x => ∃ (k t2 : Nat), k ≤ n ∧ x = .int .i64 k ∧ v = .int .i64 t2 ∧ t2 < 2 ^ n ∧ (∀ k, t2.testBit k = true → AdU n f k) ∧ subS t t2 ∧ (∀ k', k' < k → F k' ≠ 0 → t2.testBit k' = true)) (fun _ x => n - (intOf x).toNat)
      case atStart => exact ⟨0, t, by omega, rfl, rfl, ht, HU.out, fun _ h => h, fun k hk => absurd hk (by omega)⟩
      case round =>
        obtain ⟨k, t2, hk, rfl, rfl, ht2, hU2, hS2, hD2⟩ := hrel
        have HU2 := Lib.hid hU2
        have HS2 := Lib.hid hS2
        have HD2 := Lib.hid hD2
        clear hU2 hS2 hD2
        by_cases hkn : k < n
        · have e3 := HRc.out k hkn
          have hnn := (HNn.out k hkn).1
          by_cases hf : F k = 0
          · have HN := Lib.hid (show ∀ k', k' < k + 1 → F k' ≠ 0 → t2.testBit k' = true from fun k' hk' hf' => by
              by_cases e : k' = k
              · rw [e] at hf'; exact absurd hf hf'
              · exact HD2.out k' (by omega) hf')
            rw [hf] at e3
            go_wp2_with fail
            go_round
            case rel => exact ⟨k + 1, t2, by omega, by go_num, rfl, ht2, HU2.out, HS2.out, HN.out⟩
            case measure => simp [intOf]; omega
          · have hpos : 0 < F k := by omega
            have HN := Lib.hid (show ∀ k', k' < k + 1 → F k' ≠ 0 → (t2 ||| 2 ^ k).testBit k' = true from fun k' hk' hf' => by
              by_cases e : k' = k
              · rw [e]; exact or_bit.2 (.inr (two_bit.2 rfl))
              · exact sub_or _ (HD2.out k' (by omega) hf'))
            have HU3 := Lib.hid (show ∀ q, (t2 ||| 2 ^ k).testBit q = true → AdU n f q from fun q hq => by
              rcases or_bit.1 hq with hq | hq
              · exact HU2.out q hq
              · rw [two_bit.1 hq]; exact HAd.out k hkn hf)
            have HS3 := Lib.hid (show subS t (t2 ||| 2 ^ k) from fun q hq => sub_or _ (HS2.out q hq))
            have HL3 := Lib.hid (show t2 ||| 2 ^ k < 2 ^ n from Nat.or_lt_two_pow ht2 (Nat.pow_lt_pow_right (by omega) hkn))
            have hpd := pow_le16 (show k ≤ 16 by omega)
            have hsh := pow_i64 (show k ≤ 40 by omega)
            obtain ⟨pd, hpd2⟩ : ∃ p, p = 2 ^ k := ⟨_, rfl⟩
            rw [← hpd2] at hsh HN HU3 HS3 HL3 hpd
            have hor := or_i64 (a := t2) (b := pd) (Nat.lt_trans ht2 (Nat.lt_of_le_of_lt hp (by decide))) (Nat.lt_of_le_of_lt hpd (by decide))
            clear hpd2 hf
            generalize F k = y at *
            go_wp2_with fail
            go_round
            case rel => exact ⟨k + 1, t2 ||| pd, by omega, by go_num, rfl, HL3.out, HU3.out, HS3.out, HN.out⟩
            case measure => simp [intOf]; omega
        · obtain rfl : k = n := by omega
          have HD3 := Lib.hid (HDi.out t2 HS2.out fun k hk hf => HD2.out k hk hf)
          go_wp2_with fail
          go_roundw
          case rel => exact ⟨i + 1, t2, by omega, by go_num, rfl, ht2, HU2.out, HD3.out, HBd.out⟩
          case measure => simp [intOf]; omega
    · obtain rfl : i = n := by omega
      have HT := Lib.hid (adB_all HRg.out HU.out HD.out)
      have HBt := Lib.hid (HB.out.trans (HBw.out.mono HB.out.size))
      go_wp2_with fail
      clear e0
      refine (HFr.out _ t HBt.out ht).mono ?_
      rintro e w3 ⟨g, rfl, hg, hb3⟩
      have HG := Lib.hid hg
      have HB3 := Lib.hid (HBt.out.trans (hb3.mono HBt.out.size))
      clear hg hb3
      go_wp2_with fail
      go_ret
      exact ⟨g, rfl, by rw [← HT.out]; exact HG.out, HB3.out⟩
end Go.Proofs.Ytpfodikmidgpmaa
