/- InvertibleSubring of both. -/
import Derived.Test.YtpfodikmidgpmaaSbK
import Derived.Test.YtpfodikmidgpmaaDmK
namespace Go.Proofs.Ytpfodikmidgpmaa
open Go.RowKit
set_option linter.unusedSimpArgs false
set_option linter.unusedVariables false
/-- the invertible labels as a set -/
noncomputable def ivS (n : Nat) (f : Nat → Nat → Nat → Int) (m : Nat) : Nat := bset (fun k => invB n f k = true) m
theorem mem_ivs {n : Nat} {f : Nat → Nat → Nat → Int} {m k : Nat} : k ∈ ivs n f m ↔ k < m ∧ invB n f k = true := by
  induction m with
  | zero => simp [ivs]
  | succ m ih =>
    simp only [ivs]
    split
    · rename_i h
      rw [List.mem_append, ih, List.mem_singleton]
      constructor
      · rintro (⟨a, b⟩ | rfl)
        · exact ⟨by omega, b⟩
        · exact ⟨by omega, h⟩
      · rintro ⟨a, b⟩
        by_cases e : k = m
        · exact .inr e
        · exact .inl ⟨by omega, b⟩
    · rename_i h
      rw [ih]
      constructor
      · rintro ⟨a, b⟩; exact ⟨by omega, b⟩
      · rintro ⟨a, b⟩
        refine ⟨?_, b⟩
        by_cases e : k = m
        · subst e; exact absurd b h
        · omega
/-- the j-th invertible label, as an index -/
def ivN (n : Nat) (f : Nat → Nat → Nat → Int) (j : Nat) : Nat := (ivs n f n).getD j 0
theorem ivN_mem {n : Nat} {f : Nat → Nat → Nat → Int} {j : Nat} (hj : j < (ivs n f n).length) : ivN n f j ∈ ivs n f n := by
  unfold ivN
  rw [List.getD_eq_getElem?_getD, List.getElem?_eq_getElem hj]
  exact List.getElem_mem hj
theorem ivN_all {n : Nat} {f : Nat → Nat → Nat → Int} {k : Nat} (hk : k ∈ ivs n f n) : ∃ j, j < (ivs n f n).length ∧ ivN n f j = k := by
  obtain ⟨j, hj, e⟩ := List.getElem_of_mem hk
  refine ⟨j, hj, ?_⟩
  unfold ivN
  rw [List.getD_eq_getElem?_getD, List.getElem?_eq_getElem hj]
  exact e
theorem ivS_of {n : Nat} {f : Nat → Nat → Nat → Int} {t : Nat} (h : ∀ k, t.testBit k = true ↔ ∃ j, j < (ivs n f n).length ∧ ivN n f j = k) : t = ivS n f n := by
  refine set_ext fun k => ?_
  unfold ivS
  rw [h, bset_bit]
  constructor
  · rintro ⟨j, hj, rfl⟩; exact mem_ivs.1 (ivN_mem hj)
  · intro hk; exact ivN_all (mem_ivs.2 hk)
set_option maxRecDepth 100000 in
theorem implIvs_f (a : Option Addr) (n c : Nat) (M : Nat → Nat) (L : Nat → Nat → Nat) (f : Nat → Nat → Nat → Int) (w : World) (h : RdT w a n M L f) (hn : n ≤ 1048576) (hM : ∀ i, i < n → M i ≤ 1048576) (hL : ∀ i, i < n → ∀ j, j < M i → L i j ≤ 1048576) :
    Calls Try.prog 44 #[.agg #[.slice a n c]] w (IntRes w (iRg (ringB n M L f) (ivS n f n)) (cRg (ringB n M L f))) := by
  have HI := Lib.hid (fun u (hu : Below w.heap.size w u) => implIsRing_f a n c M L f u (h.below hu (Nat.le_refl _)) hn hM hL)
  clear hM hL
  cases hr : ringB n M L f
  · rw [hr] at HI
    clear h hr
    go_enter Try.func44, Try.ntmps44
    go_wp2_with fail
    refine (HI.out _ (below_alloc _ _)).mono ?_
    rintro e w1 ⟨rfl, hb⟩
    have HB := Lib.hid ((below_alloc w (.cells #[.slice a n c] 28)).trans (hb.mono (by simp)))
    have hsz : w.heap.size < w1.heap.size := by have := hb.size; simp at this; omega
    have e0 : w1.cell? ⟨w.heap.size, 0, none⟩ = some (.slice a n c) := by
      rw [hb.cell (p := ⟨w.heap.size, 0, none⟩) (by simp)]; exact cell_box _ _ _
    have E0 := Lib.hid e0
    clear hb
    go_wp2_with fail
    go_ret2
    exact ⟨rfl, HB.out⟩
  · have HRg := Lib.hid (rng_of hr)
    obtain ⟨h0, h16, hf, hd, b, off, B, O, C, B2, O2, C2, rfl, hat⟩ := ring_open h hr
    have HAt := Lib.hid hat
    rw [hr] at HI
    clear h hd hf hr hat
    go_enter Try.func44, Try.ntmps44
    go_wp2_with fail
    refine (HI.out _ (below_alloc _ _)).mono ?_
    rintro e w1 ⟨rfl, hb⟩
    have HB := Lib.hid ((below_alloc w (.cells #[.slice (some ⟨b, off, none⟩) n c] 28)).trans (hb.mono (by simp)))
    have hsz : w.heap.size < w1.heap.size := by have := hb.size; simp at this; omega
    have e0 : w1.cell? ⟨w.heap.size, 0, none⟩ = some (.slice (some ⟨b, off, none⟩) n c) := by
      rw [hb.cell (p := ⟨w.heap.size, 0, none⟩) (by simp)]; exact cell_box _ _ _
    have E0 := Lib.hid e0
    clear hb
    go_wp2_with fail
    clear e0
    refine (invertibleLabels_f b off n c B O C B2 O2 C2 f _ (HAt.out.below HB.out) HRg.out).mono ?_
    rintro e w3 ⟨g, cg, rfl, hg, hrow, hb3⟩
    have HB3 := Lib.hid (HB.out.trans (hb3.mono HB.out.size))
    have HQ := Lib.hid hrow
    clear hb3 hg hrow
    have hlen := ivs_len n f n
    go_wp2_with fail
    go_loop [4, 13] (fun v x => ∃ (q t : Nat), q ≤ (ivs n f n).length ∧ x = .int .i64 q ∧ v = .int .i64 t ∧ t < 2 ^ n ∧ ∀ k, t.testBit k = true ↔ ∃ j, j < q ∧ ivN n f j = k) (fun _ x => (ivs n f n).length - (intOf x).toNat)
    case atStart => exact ⟨0, 0, by omega, rfl, rfl, Nat.pow_pos (by omega), fun k => by simp⟩
    case round =>
      obtain ⟨q, t, hq, rfl, rfl, ht, hT⟩ := hrel
      have HT := Lib.hid hT
      clear hT
      by_cases hqn : q < (ivs n f n).length
      · have hc : w3.cell? ⟨g, q, none⟩ = some (.int .i64 (ivN n f q)) := RowB.cell HQ.out hqn
        have hm := (mem_ivs.1 (ivN_mem hqn)).1
        have HN := Lib.hid (show ∀ k, (t ||| 2 ^ ivN n f q).testBit k = true ↔ ∃ j, j < q + 1 ∧ ivN n f j = k from fun k => by
          rw [or_bit, HT.out, two_bit]
          constructor
          · rintro (⟨j, hj, e⟩ | rfl)
            · exact ⟨j, by omega, e⟩
            · exact ⟨q, by omega, rfl⟩
          · rintro ⟨j, hj, e⟩
            by_cases e' : j = q
            · subst e'; exact .inr e.symm
            · exact .inl ⟨j, by omega, e⟩)
        have hp := pow_le16 h16
        have HL3 := Lib.hid (show t ||| 2 ^ ivN n f q < 2 ^ n from Nat.or_lt_two_pow ht (Nat.pow_lt_pow_right (by omega) hm))
        have hpd := pow_le16 (show ivN n f q ≤ 16 by omega)
        have hsh := pow_i64 (show ivN n f q ≤ 40 by omega)
        obtain ⟨p, hp1⟩ : ∃ p, p = ivN n f q := ⟨_, rfl⟩
        rw [← hp1] at HN HL3 hpd hsh hc hm
        obtain ⟨pd, hpd2⟩ : ∃ x, x = 2 ^ p := ⟨_, rfl⟩
        rw [← hpd2] at hsh HN HL3 hpd
        have hor := or_i64 (a := t) (b := pd) (Nat.lt_trans ht (Nat.lt_of_le_of_lt hp (by decide))) (Nat.lt_of_le_of_lt hpd (by decide))
        clear hp1 hpd2
        generalize (ivs n f n).length = len at *
        go_wp2_with fail
        go_round
        case rel => exact ⟨q + 1, t ||| pd, by omega, by go_num, rfl, HL3.out, HN.out⟩
        case measure => simp [intOf]; omega
      · have hq2 : q = (ivs n f n).length := by omega
        have HE := Lib.hid (ivS_of (fun k => by rw [HT.out, hq2]))
        generalize (ivs n f n).length = len at *
        go_wp2_with fail
        go_ret2
        exact ⟨by rw [← HE.out]; rfl, HB3.out⟩
set_option maxRecDepth 100000 in
theorem specIvs_f (a : Option Addr) (n c : Nat) (M : Nat → Nat) (L : Nat → Nat → Nat) (f : Nat → Nat → Nat → Int) (w : World) (h : RdT w a n M L f) (hn : n ≤ 1048576) (hM : ∀ i, i < n → M i ≤ 1048576) (hL : ∀ i, i < n → ∀ j, j < M i → L i j ≤ 1048576) :
    Calls Try.prog 43 #[.agg #[.slice a n c]] w (IntRes w (iRg (ringB n M L f) (ivS n f n)) (cRg (ringB n M L f))) := by
  have HI := Lib.hid (fun u (hu : Below w.heap.size w u) => l03Is_f a n c M L f u (h.below hu (Nat.le_refl _)) hn hM hL)
  clear hM hL
  cases hr : ringB n M L f
  · rw [hr] at HI
    clear h hr
    go_enter Try.func43, Try.ntmps43
    go_wp2_with fail
    refine (HI.out _ (below_alloc _ _)).mono ?_
    rintro e w1 ⟨rfl, hb⟩
    have HB := Lib.hid ((below_alloc w (.cells #[.slice a n c] 28)).trans (hb.mono (by simp)))
    have hsz : w.heap.size < w1.heap.size := by have := hb.size; simp at this; omega
    have e0 : w1.cell? ⟨w.heap.size, 0, none⟩ = some (.slice a n c) := by
      rw [hb.cell (p := ⟨w.heap.size, 0, none⟩) (by simp)]; exact cell_box _ _ _
    have E0 := Lib.hid e0
    clear hb
    go_wp2_with fail
    go_ret2
    exact ⟨rfl, HB.out⟩
  · have HRg := Lib.hid (rng_of hr)
    obtain ⟨h0, h16, hf, hd, b, off, B, O, C, B2, O2, C2, rfl, hat⟩ := ring_open h hr
    have HAt := Lib.hid hat
    rw [hr] at HI
    clear h hd hf hr hat
    go_enter Try.func43, Try.ntmps43
    go_wp2_with fail
    refine (HI.out _ (below_alloc _ _)).mono ?_
    rintro e w1 ⟨rfl, hb⟩
    have HB := Lib.hid ((below_alloc w (.cells #[.slice (some ⟨b, off, none⟩) n c] 28)).trans (hb.mono (by simp)))
    have hsz : w.heap.size < w1.heap.size := by have := hb.size; simp at this; omega
    have e0 : w1.cell? ⟨w.heap.size, 0, none⟩ = some (.slice (some ⟨b, off, none⟩) n c) := by
      rw [hb.cell (p := ⟨w.heap.size, 0, none⟩) (by simp)]; exact cell_box _ _ _
    have E0 := Lib.hid e0
    clear hb
    go_wp2_with fail
    clear e0
    go_loopw [4, 5] (fun v x wr => ∃ (q : Nat), q ≤ n ∧ x = .int .i64 q ∧ v = .int .i64 (ivS n f q : Nat) ∧ Below w1.heap.size w1 wr) (fun _ x _ => n - (intOf x).toNat)
    case atStart => exact ⟨0, by omega, rfl, rfl, Below.refl _ _⟩
    case round =>
      obtain ⟨q, hq, rfl, rfl, hbw⟩ := hrel
      have HT := Lib.hid (HB.out.trans (hbw.mono HB.out.size))
      have e0 : wr.cell? ⟨w.heap.size, 0, none⟩ = some (.slice (some ⟨b, off, none⟩) n c) := (hbw.cell (p := ⟨w.heap.size, 0, none⟩) hsz).trans E0.out
      have HBw := Lib.hid hbw
      clear hbw
      by_cases hqn : q < n
      · have HD := Lib.hid (l04Invertible_f b off n c B O C B2 O2 C2 f q wr (HAt.out.below HT.out) HRg.out hqn)
        go_wp2_with fail
        clear e0
        refine HD.out.mono ?_
        rintro e w2 ⟨rfl, hb2⟩
        have HB2 := Lib.hid (HBw.out.trans (hb2.mono HBw.out.size))
        clear hb2
        have hl : ivS n f q < 2 ^ q := bset_lt _ _
        have hp := pow_le16 (show q ≤ 16 by omega)
        cases hinv : invB n f q
        · have HN := Lib.hid (show ivS n f (q + 1) = ivS n f q from bset_no (by rw [hinv]; simp))
          go_wp2_with fail
          exact ⟨⟨q + 1, by omega, by go_num, by rw [HN.out], HB2.out⟩, by simp [intOf]; omega⟩
        · have HN := Lib.hid (show ivS n f (q + 1) = ivS n f q ||| 2 ^ q from bset_yes hinv)
          have hsh := pow_i64 (show q ≤ 40 by omega)
          obtain ⟨x, hx⟩ : ∃ x, x = ivS n f q := ⟨_, rfl⟩
          rw [← hx] at HN hl ⊢
          obtain ⟨p, hp2⟩ : ∃ p, p = 2 ^ q := ⟨_, rfl⟩
          rw [← hp2] at hsh HN hl hp
          have hor := or_i64 (show x < 4611686018427387904 by omega) (show p < 4611686018427387904 by omega)
          clear hx hp2
          go_wp2_with fail
          exact ⟨⟨q + 1, by omega, by go_num, by rw [HN.out], HB2.out⟩, by simp [intOf]; omega⟩
      · obtain rfl : q = n := by omega
        go_wp2_with fail
        go_ret2
        exact ⟨rfl, HT.out⟩
end Go.Proofs.Ytpfodikmidgpmaa
