/- SubringFrom of both. -/
import Derived.Test.YtpfodikmidgpmaaSbK
import Derived.Test.YtpfodikmidgpmaaRgiP
namespace Go.Proofs.Ytpfodikmidgpmaa
open Go.RowKit
set_option linter.unusedSimpArgs false
set_option linter.unusedVariables false
/-- all numbers of a list are labels -/
def allL (n m : Nat) (x : Nat → Int) : Bool := decide (∀ j, j < m → 0 ≤ x j ∧ x j < n)
/-- the set of a list -/
noncomputable def liS (n m : Nat) (x : Nat → Int) : Nat := bset (fun k => ∃ j, j < m ∧ x j = (k : Int)) n
def cSF (r l : Bool) : Int := if r then (if l then 0 else 2) else 1
theorem allL_no {n m j : Nat} {x : Nat → Int} (hj : j < m) (h : labB n (x j) = false) : allL n m x = false := by
  refine decide_eq_false fun hc => ?_
  have := decide_eq_true (hc j hj)
  unfold labB at h
  rw [this] at h; cases h
theorem labB_t {n : Nat} {i : Int} (h : labB n i = true) : 0 ≤ i ∧ i < n := of_decide_eq_true h
theorem liS_of {n m t : Nat} {x : Nat → Int} (ht : t < 2 ^ n) (h : ∀ k, t.testBit k = true ↔ ∃ j, j < m ∧ x j = (k : Int)) : t = liS n m x := by
  refine set_ext fun k => ?_
  unfold liS
  rw [bset_bit]
  exact ⟨fun hb => ⟨bit_lt ht hb, (h k).1 hb⟩, fun hb => (h k).2 hb.2⟩
theorem gen_congr {n : Nat} {f : Nat → Nat → Nat → Int} {s t g : Nat} (h : ∀ T, Sbr n f T → (subS s T ↔ subS t T)) (hg : IsGen n f s g) : IsGen n f t g :=
  ⟨hg.1, (h g hg.1).1 hg.2.1, fun T hT hs => hg.2.2 T hT ((h T hT).2 hs)⟩
set_option maxRecDepth 100000 in
set_option maxHeartbeats 1000000 in
theorem implSbf_f (a : Option Addr) (n c : Nat) (M : Nat → Nat) (L : Nat → Nat → Nat) (f : Nat → Nat → Nat → Int) (a1 : Option Addr) (m1 c1 : Nat) (x : Nat → Int) (w : World) (h : RdT w a n M L f) (hn : n ≤ 1048576) (hM : ∀ i, i < n → M i ≤ 1048576) (hL : ∀ i, i < n → ∀ j, j < M i → L i j ≤ 1048576) (h1 : RdR w a1 m1 x) (hm1 : m1 ≤ 1048576) :
    Calls Try.prog 21 #[.agg #[.slice a n c], .slice a1 m1 c1] w (IntRes w (iRg (ringB n M L f && allL n m1 x) (genS n f (liS n m1 x))) (cSF (ringB n M L f) (allL n m1 x))) := by
  have HI := Lib.hid (fun u (hu : Below w.heap.size w u) => implIsRing_f a n c M L f u (h.below hu (Nat.le_refl _)) hn hM hL)
  have H1 := Lib.hid h1
  clear hM hL
  cases hr : ringB n M L f
  · rw [hr] at HI
    clear h h1 hr
    go_enter Try.func21, Try.ntmps21
    go_wp2_with fail
    refine (HI.out _ (below_alloc _ _)).mono ?_
    rintro e w1 ⟨rfl, hb⟩
    have HB := Lib.hid ((below_alloc w (.cells #[.slice a n c] 28)).trans (hb.mono (by simp)))
    have hsz : w.heap.size < w1.heap.size := by have := hb.size; simp at this; omega
    have e0 : w1.cell? ⟨w.heap.size, 0, none⟩ = some (.slice a n c) := by
      rw [hb.cell (p := ⟨w.heap.size, 0, none⟩) (by simp)]; exact cell_box _ _ _
    have E0 := Lib.hid e0
    clear hb
    go_wp2_with fail
    go_ret2
    exact ⟨rfl, HB.out⟩
  · have HRg := Lib.hid (rng_of hr)
    obtain ⟨h0, h16, hf, hd, b, off, B, O, C, B2, O2, C2, rfl, hat⟩ := ring_open h hr
    have HAt := Lib.hid hat
    rw [hr] at HI
    clear h1
    clear h hd hf hr hat
    go_enter Try.func21, Try.ntmps21
    go_wp2_with fail
    refine (HI.out _ (below_alloc _ _)).mono ?_
    rintro e w1 ⟨rfl, hb⟩
    have HB := Lib.hid ((below_alloc w (.cells #[.slice (some ⟨b, off, none⟩) n c] 28)).trans (hb.mono (by simp)))
    have hsz : w.heap.size < w1.heap.size := by have := hb.size; simp at this; omega
    have e0 : w1.cell? ⟨w.heap.size, 0, none⟩ = some (.slice (some ⟨b, off, none⟩) n c) := by
      rw [hb.cell (p := ⟨w.heap.size, 0, none⟩) (by simp)]; exact cell_box _ _ _
    have E0 := Lib.hid e0
    clear hb
    go_wp2_with fail
    clear e0
    go_loopw [6, 14] (fun v y wr => ∃ (q t : Nat), q ≤ m1 ∧ y = .int .i64 q ∧ v = .int .i64 t ∧ t < 2 ^ n ∧ (∀ k, t.testBit k = true ↔ ∃ j, j < q ∧ x j = (k : Int)) ∧ (∀ j, j < q → labB n (x j) = true) ∧ Below w1.heap.size w1 wr) (fun _ y _ => m1 - (intOf y).toNat)
    case atStart => exact ⟨0, 0, by omega, rfl, rfl, Nat.pow_pos (by omega), fun k => by simp, fun j hj => absurd hj (by omega), Below.refl _ _⟩
    case round =>
      obtain ⟨q, t, hq, rfl, rfl, ht, hT, hA, hbw⟩ := hrel
      have HTt := Lib.hid (HB.out.trans (hbw.mono HB.out.size))
      have HT := Lib.hid hT
      have HA := Lib.hid hA
      have HBw := Lib.hid hbw
      have e0 : wr.cell? ⟨w.heap.size, 0, none⟩ = some (.slice (some ⟨b, off, none⟩) n c) := (hbw.cell (p := ⟨w.heap.size, 0, none⟩) hsz).trans E0.out
      clear hT hA hbw
      by_cases hqn : q < m1
      · obtain ⟨b1, o1, rfl, hb1, hc1⟩ := H1.out.open (by omega)
        have hc : wr.cell? ⟨b1, o1 + q, none⟩ = some (.int .i64 (x q)) := (HTt.out.cell (p := ⟨b1, o1 + q, none⟩) hb1).trans (hc1 q hqn)
        clear hc1
        have HL := Lib.hid (fun u => hasLabel_f (some ⟨b, off, none⟩) n c (x q) u)
        cases hlab : labB n (x q)
        · have HF := Lib.hid (allL_no hqn hlab)
          rw [hlab] at HL
          clear hlab
          generalize x q = xq at *
          go_wp2_with fail
          clear e0
          refine (HL.out _).mono ?_
          rintro e w2 ⟨rfl, hb2⟩
          have HB2 := Lib.hid (HTt.out.trans (hb2.mono HTt.out.size))
          clear hb2
          go_wp2_with fail
          go_ret2
          exact ⟨by rw [HF.out]; rfl, HB2.out⟩
        · rw [hlab] at HL
          have hlb := labB_t hlab
          obtain ⟨p, hp1⟩ : ∃ p : Nat, x q = (p : Int) := ⟨(x q).toNat, by omega⟩
          rw [hp1] at hc HL hlb
          have hpn : p < n := by omega
          have HN := Lib.hid (show ∀ k, (t ||| 2 ^ p).testBit k = true ↔ ∃ j, j < q + 1 ∧ x j = (k : Int) from fun k => by
            rw [or_bit, HT.out, two_bit]
            constructor
            · rintro (⟨j, hj, e⟩ | rfl)
              · exact ⟨j, by omega, e⟩
              · exact ⟨q, by omega, hp1⟩
            · rintro ⟨j, hj, e⟩
              by_cases e' : j = q
              · subst e'; rw [hp1] at e; exact .inr (by omega)
              · exact .inl ⟨j, by omega, e⟩)
          have HA2 := Lib.hid (show ∀ j, j < q + 1 → labB n (x j) = true from fun j hj => by
            by_cases e' : j = q
            · subst e'; exact hlab
            · exact HA.out j (by omega))
          have hp := pow_le16 h16
          have HL3 := Lib.hid (show t ||| 2 ^ p < 2 ^ n from Nat.or_lt_two_pow ht (Nat.pow_lt_pow_right (by omega) hpn))
          have hpd := pow_le16 (show p ≤ 16 by omega)
          have hsh := pow_i64 (show p ≤ 40 by omega)
          obtain ⟨pd, hpd2⟩ : ∃ z, z = 2 ^ p := ⟨_, rfl⟩
          rw [← hpd2] at hsh HN HL3 hpd
          have hor := or_i64 (a := t) (b := pd) (Nat.lt_trans ht (Nat.lt_of_le_of_lt hp (by decide))) (Nat.lt_of_le_of_lt hpd (by decide))
          clear hpd2
          go_wp2_with fail
          clear e0
          refine (HL.out _).mono ?_
          rintro e w2 ⟨rfl, hb2⟩
          have HB2 := Lib.hid (HBw.out.trans (hb2.mono HBw.out.size))
          clear hb2
          go_wp2_with fail
          exact ⟨⟨q + 1, t ||| pd, by omega, by go_num, rfl, HL3.out, HN.out, HA2.out, HB2.out⟩, by simp [intOf]; omega⟩
      · obtain rfl : q = m1 := by omega
        have HE := Lib.hid (liS_of ht HT.out)
        have HF := Lib.hid (show allL n q x = true from decide_eq_true fun j hj => labB_t (HA.out j hj))
        go_wp2_with fail
        clear e0
        refine (occurrences_f b off n c B O C B2 O2 C2 f _ (HAt.out.below HTt.out) h0 h16).mono ?_
        rintro e w3 ⟨T, G, C', rfl, hocc, hb3⟩
        have HO := Lib.hid hocc
        have HB3 := Lib.hid (HTt.out.trans (hb3.mono HTt.out.size))
        clear hocc hb3
        go_wp2_with fail
        refine (generated_f T 0 n n G (fun _ => 0) C' f t _ HO.out h0 h16 ht).mono ?_
        rintro e w6 ⟨g, rfl, hg, hb6⟩
        have HG := Lib.hid (gen_eq hg)
        have HB6 := Lib.hid (HB3.out.trans (hb6.mono HB3.out.size))
        clear hg hb6
        go_wp2_with fail
        go_ret2
        exact ⟨by rw [HF.out, HG.out, HE.out]; rfl, HB6.out⟩
set_option maxRecDepth 100000 in
set_option maxHeartbeats 1000000 in
theorem specSbf_f (a : Option Addr) (n c : Nat) (M : Nat → Nat) (L : Nat → Nat → Nat) (f : Nat → Nat → Nat → Int) (a1 : Option Addr) (m1 c1 : Nat) (x : Nat → Int) (w : World) (h : RdT w a n M L f) (hn : n ≤ 1048576) (hM : ∀ i, i < n → M i ≤ 1048576) (hL : ∀ i, i < n → ∀ j, j < M i → L i j ≤ 1048576) (h1 : RdR w a1 m1 x) (hm1 : m1 ≤ 1048576) :
    Calls Try.prog 19 #[.agg #[.slice a n c], .slice a1 m1 c1] w (IntRes w (iRg (ringB n M L f && allL n m1 x) (genS n f (liS n m1 x))) (cSF (ringB n M L f) (allL n m1 x))) := by
  have HI := Lib.hid (fun u (hu : Below w.heap.size w u) => l03Is_f a n c M L f u (h.below hu (Nat.le_refl _)) hn hM hL)
  have H1 := Lib.hid h1
  clear hM hL
  cases hr : ringB n M L f
  · rw [hr] at HI
    clear h h1 hr
    go_enter Try.func19, Try.ntmps19
    go_wp2_with fail
    refine (HI.out _ (below_alloc _ _)).mono ?_
    rintro e w1 ⟨rfl, hb⟩
    have HB := Lib.hid ((below_alloc w (.cells #[.slice a n c] 28)).trans (hb.mono (by simp)))
    have hsz : w.heap.size < w1.heap.size := by have := hb.size; simp at this; omega
    have e0 : w1.cell? ⟨w.heap.size, 0, none⟩ = some (.slice a n c) := by
      rw [hb.cell (p := ⟨w.heap.size, 0, none⟩) (by simp)]; exact cell_box _ _ _
    have E0 := Lib.hid e0
    clear hb
    go_wp2_with fail
    go_ret2
    exact ⟨rfl, HB.out⟩
  · have HRg := Lib.hid (rng_of hr)
    obtain ⟨h0, h16, hf, hd, b, off, B, O, C, B2, O2, C2, rfl, hat⟩ := ring_open h hr
    have HAt := Lib.hid hat
    rw [hr] at HI
    clear h1
    clear h hd hf hr hat
    go_enter Try.func19, Try.ntmps19
    go_wp2_with fail
    refine (HI.out _ (below_alloc _ _)).mono ?_
    rintro e w1 ⟨rfl, hb⟩
    have HB := Lib.hid ((below_alloc w (.cells #[.slice (some ⟨b, off, none⟩) n c] 28)).trans (hb.mono (by simp)))
    have hsz : w.heap.size < w1.heap.size := by have := hb.size; simp at this; omega
    have e0 : w1.cell? ⟨w.heap.size, 0, none⟩ = some (.slice (some ⟨b, off, none⟩) n c) := by
      rw [hb.cell (p := ⟨w.heap.size, 0, none⟩) (by simp)]; exact cell_box _ _ _
    have E0 := Lib.hid e0
    clear hb
    go_wp2_with fail
    clear e0
    go_loopw [6, 7] (fun v y wr => ∃ (q t : Nat), q ≤ m1 ∧ y = .int .i64 q ∧ v = .int .i64 t ∧ t < 2 ^ n ∧ (∀ k, t.testBit k = true ↔ k = 0 ∨ ∃ j, j < q ∧ x j = (k : Int)) ∧ (∀ j, j < q → labB n (x j) = true) ∧ Below w1.heap.size w1 wr) (fun _ y _ => m1 - (intOf y).toNat)
    case atStart => exact ⟨0, 1, by omega, rfl, rfl, Nat.one_lt_two_pow (by omega), fun k => by rw [one_bit0]; simp, fun j hj => absurd hj (by omega), Below.refl _ _⟩
    case round =>
      obtain ⟨q, t, hq, rfl, rfl, ht, hT, hA, hbw⟩ := hrel
      have HTt := Lib.hid (HB.out.trans (hbw.mono HB.out.size))
      have HT := Lib.hid hT
      have HA := Lib.hid hA
      have HBw := Lib.hid hbw
      have e0 : wr.cell? ⟨w.heap.size, 0, none⟩ = some (.slice (some ⟨b, off, none⟩) n c) := (hbw.cell (p := ⟨w.heap.size, 0, none⟩) hsz).trans E0.out
      clear hT hA hbw
      by_cases hqn : q < m1
      · obtain ⟨b1, o1, rfl, hb1, hc1⟩ := H1.out.open (by omega)
        have hc : wr.cell? ⟨b1, o1 + q, none⟩ = some (.int .i64 (x q)) := (HTt.out.cell (p := ⟨b1, o1 + q, none⟩) hb1).trans (hc1 q hqn)
        clear hc1
        have HL := Lib.hid (fun u => l03Label_f (some ⟨b, off, none⟩) n c (x q) u (by omega))
        have KW := Lib.hid (And.intro e0 hc)
        have hl1 : w.heap.size < wr.heap.size := by have := HBw.out.size; omega
        have hl2 : b1 < wr.heap.size := Nat.lt_of_lt_of_le hb1 HTt.out.size
        cases hlab : labB n (x q)
        · have HF := Lib.hid (allL_no hqn hlab)
          rw [hlab] at HL
          clear hlab
          generalize x q = xq at *
          go_wp2_with fail
          clear e0
          go_region_held3 (fun u => u.cell? ⟨w.heap.size, 0, none⟩ = some (.slice (some ⟨b, off, none⟩) n c) ∧ u.cell? ⟨b1, o1 + q, none⟩ = some (.int .i64 xq)) (first | exact KA.out | exact KW.out) (first | (go_at_call 55; refine (HL.out _).mono ?_; rintro e w2 ⟨rfl, hb2⟩; have KA := Lib.hid (show w2.cell? ⟨w.heap.size, 0, none⟩ = some (.slice (some ⟨b, off, none⟩) n c) ∧ w2.cell? ⟨b1, o1 + q, none⟩ = some (.int .i64 xq) from ⟨(hb2.cell (p := ⟨w.heap.size, 0, none⟩) hl1).trans KW.out.1, (hb2.cell (p := ⟨b1, o1 + q, none⟩) hl2).trans KW.out.2⟩); have HB2 := Lib.hid (HTt.out.trans ((show Below wr.heap.size wr w2 from ⟨hb2.os, hb2.tape, hb2.output, hb2.size, hb2.block⟩).mono HTt.out.size)); have HB3 := Lib.hid (HBw.out.trans ((show Below wr.heap.size wr w2 from ⟨hb2.os, hb2.tape, hb2.output, hb2.size, hb2.block⟩).mono HBw.out.size)); clear hb2))
          go_wp2_with fail
          go_ret2
          exact ⟨by rw [HF.out]; rfl, HB2.out⟩
        · rw [hlab] at HL
          have hlb := labB_t hlab
          obtain ⟨p, hp1⟩ : ∃ p : Nat, x q = (p : Int) := ⟨(x q).toNat, by omega⟩
          rw [hp1] at hc HL KW hlb
          have hpn : p < n := by omega
          have HN := Lib.hid (show ∀ k, (t ||| 2 ^ p).testBit k = true ↔ k = 0 ∨ ∃ j, j < q + 1 ∧ x j = (k : Int) from fun k => by
            rw [or_bit, HT.out, two_bit]
            constructor
            · rintro ((rfl | ⟨j, hj, e⟩) | rfl)
              · exact .inl rfl
              · exact .inr ⟨j, by omega, e⟩
              · exact .inr ⟨q, by omega, hp1⟩
            · rintro (h | ⟨j, hj, e⟩)
              · exact .inl (.inl h)
              · by_cases e' : j = q
                · subst e'; rw [hp1] at e; exact .inr (by omega)
                · exact .inl (.inr ⟨j, by omega, e⟩))
          have HA2 := Lib.hid (show ∀ j, j < q + 1 → labB n (x j) = true from fun j hj => by
            by_cases e' : j = q
            · subst e'; exact hlab
            · exact HA.out j (by omega))
          have hp := pow_le16 h16
          have HL3 := Lib.hid (show t ||| 2 ^ p < 2 ^ n from Nat.or_lt_two_pow ht (Nat.pow_lt_pow_right (by omega) hpn))
          have hpd := pow_le16 (show p ≤ 16 by omega)
          have hsh := pow_i64 (show p ≤ 40 by omega)
          obtain ⟨pd, hpd2⟩ : ∃ z, z = 2 ^ p := ⟨_, rfl⟩
          rw [← hpd2] at hsh HN HL3 hpd
          have hor := or_i64 (a := t) (b := pd) (Nat.lt_trans ht (Nat.lt_of_le_of_lt hp (by decide))) (Nat.lt_of_le_of_lt hpd (by decide))
          clear hpd2
          go_wp2_with fail
          clear e0
          go_region_held3 (fun u => u.cell? ⟨w.heap.size, 0, none⟩ = some (.slice (some ⟨b, off, none⟩) n c) ∧ u.cell? ⟨b1, o1 + q, none⟩ = some (.int .i64 (p : Int))) (first | exact KA.out | exact KW.out) (first | (go_at_call 55; refine (HL.out _).mono ?_; rintro e w2 ⟨rfl, hb2⟩; have KA := Lib.hid (show w2.cell? ⟨w.heap.size, 0, none⟩ = some (.slice (some ⟨b, off, none⟩) n c) ∧ w2.cell? ⟨b1, o1 + q, none⟩ = some (.int .i64 (p : Int)) from ⟨(hb2.cell (p := ⟨w.heap.size, 0, none⟩) hl1).trans KW.out.1, (hb2.cell (p := ⟨b1, o1 + q, none⟩) hl2).trans KW.out.2⟩); have HB2 := Lib.hid (HTt.out.trans ((show Below wr.heap.size wr w2 from ⟨hb2.os, hb2.tape, hb2.output, hb2.size, hb2.block⟩).mono HTt.out.size)); have HB3 := Lib.hid (HBw.out.trans ((show Below wr.heap.size wr w2 from ⟨hb2.os, hb2.tape, hb2.output, hb2.size, hb2.block⟩).mono HBw.out.size)); clear hb2))
          have c9 := KA.out.2
          clear KA
          go_wp2_with fail
          exact ⟨⟨q + 1, t ||| pd, by omega, by go_num, rfl, HL3.out, HN.out, HA2.out, HB3.out⟩, by simp [intOf]; omega⟩
      · obtain rfl : q = m1 := by omega
        have HE := Lib.hid (show ∀ g, IsGen n f t g → IsGen n f (liS n q x) g from fun g hg => gen_congr (fun T hT => by
          constructor
          · intro hs k hk
            refine hs k ((HT.out k).2 (.inr ?_))
            exact ((bset_bit _ _ _).1 hk).2
          · intro hs k hk
            rcases (HT.out k).1 hk with rfl | hj
            · exact hT.2.1
            · exact hs k ((bset_bit _ _ _).2 ⟨bit_lt ht hk, hj⟩)) hg)
        have HF := Lib.hid (show allL n q x = true from decide_eq_true fun j hj => labB_t (HA.out j hj))
        go_wp2_with fail
        clear e0
        refine (l05From_f b off n c B O C B2 O2 C2 f t _ (HAt.out.below HTt.out) HRg.out ht).mono ?_
        rintro e w3 ⟨g, rfl, hg, hb3⟩
        have HG := Lib.hid (gen_eq (HE.out g hg))
        have HB3 := Lib.hid (HTt.out.trans (hb3.mono HTt.out.size))
        clear hg hb3
        go_wp2_with fail
        go_ret2
        exact ⟨by rw [HF.out, HG.out]; rfl, HB3.out⟩
end Go.Proofs.Ytpfodikmidgpmaa
