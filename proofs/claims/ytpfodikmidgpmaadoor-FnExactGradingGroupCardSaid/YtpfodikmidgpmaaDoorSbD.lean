/- Subrings, the least ones, and all labels: of the program. -/
import Derived.Test.YtpfodikmidgpmaaDoorSbC
namespace Go.Proofs.YtpfodikmidgpmaaDoor
open Go.RowKit
set_option linter.unusedSimpArgs false
set_option linter.unusedVariables false
theorem clo_iff {n : Nat} {f : Nat → Nat → Nat → Int} {s : Nat} (h16 : n ≤ 16) (hs : s < 2 ^ n) : ClO (occ n f) s ↔ Cls n f s := by
  have hp := pow_le16 h16
  have h6 : s < 65536 := by omega
  constructor
  · intro h i j k hi hj hk bi bj hf
    exact h i ((mem_lbl h6).2 bi) j ((mem_lbl h6).2 bj) k (occ_bit.2 ⟨hk, hf⟩)
  · intro h i hi j hj k hk
    obtain ⟨h1, h2⟩ := occ_bit.1 hk
    have bi := (mem_lbl h6).1 hi
    have bj := (mem_lbl h6).1 hj
    exact h i j k (bit_lt hs bi) (bit_lt hs bj) h1 bi bj h2
theorem one_bit0 : ∀ k, (1 : Nat).testBit k = true ↔ k = 0 := fun k => by
  have := Nat.testBit_two_pow (n := 0) (m := k)
  rw [show (1 : Nat) = 2 ^ 0 from rfl, this, decide_eq_true_iff]
  omega
theorem or_bit {a b k : Nat} : (a ||| b).testBit k = true ↔ a.testBit k = true ∨ b.testBit k = true := by rw [Nat.testBit_or, Bool.or_eq_true]
theorem gen_step {n : Nat} {f : Nat → Nat → Nat → Int} {t T : Nat} (h16 : n ≤ 16) (ht : t < 2 ^ n) (hT : Sbr n f T) (h : subS t T) : subS (t ||| prl (occ n f) (lbl t) (lbl t)) T := by
  have hp := pow_le16 h16
  have h6 : t < 65536 := by omega
  intro k hk
  rcases or_bit.1 hk with hk | hk
  · exact h k hk
  · obtain ⟨i, hi, j, hj, hk⟩ := (prl_bit _ _ _ _).1 hk
    obtain ⟨h1, h2⟩ := occ_bit.1 hk
    have bi := (mem_lbl h6).1 hi
    have bj := (mem_lbl h6).1 hj
    exact hT.2.2 i j k (bit_lt ht bi) (bit_lt ht bj) h1 (h i bi) (h j bj) h2
theorem gen_more {n : Nat} {f : Nat → Nat → Nat → Int} {t : Nat} (h : ¬ ClO (occ n f) t) : t < t ||| prl (occ n f) (lbl t) (lbl t) := by
  refine Nat.lt_of_le_of_ne Nat.left_le_or fun e => h ?_
  intro i hi j hj k hk
  rw [e]
  exact or_bit.2 (.inr ((prl_bit _ _ _ _).2 ⟨i, hi, j, hj, hk⟩))
theorem prl_occ_lt {n : Nat} {f : Nat → Nat → Nat → Int} {xs ys : List Nat} : prl (occ n f) xs ys < 2 ^ n := by
  have : ∀ (xs : List Nat) (s : Nat), s < 2 ^ n → xs.foldl (fun s i => orl (occ n f i) s ys) s < 2 ^ n := by
    intro xs
    induction xs with
    | nil => exact fun _ h => h
    | cons x xs ih => exact fun s h => ih _ (orl_lt h fun j _ => occ_lt n f x j)
  exact this xs 0 (Nat.pow_pos (by omega))
set_option maxRecDepth 100000 in
theorem all_f (a : Option Addr) (n c : Nat) (w : World) (h16 : n ≤ 16) :
    Calls Tryd.prog 51 #[.slice a n c] w fun e w' => e = .returned (.int .i64 ((2 ^ n - 1 : Nat) : Int)) ∧ w = w' := by
  have hp := pow_le16 h16
  have hp0 : 0 < 2 ^ n := Nat.pow_pos (by omega)
  have e1 : ((2 : Int) ^ n) = ((2 ^ n : Nat) : Int) := by rw [Int.natCast_pow]; rfl
  have HE := Lib.hid e1
  clear e1
  go_enter Tryd.func51, Tryd.ntmps51
  go_wp2_with fail
  go_ret
  refine ⟨?_, rfl⟩
  show Ending.returned (Value.int .i64 (wrap64 (wrap64 (2 ^ n) - 1))) = _
  rw [HE.out]
  obtain ⟨x, hx⟩ : ∃ x, x = 2 ^ n := ⟨_, rfl⟩
  rw [← hx] at hp hp0 ⊢
  have e1 : wrap64 (x : Int) = x := by simp [wrap64]; omega
  have e2 : wrap64 ((x : Int) - 1) = ((x - 1 : Nat) : Int) := by simp [wrap64]; omega
  rw [e1, e2]
set_option maxRecDepth 100000 in
set_option maxHeartbeats 1000000 in
theorem generated_f (b off n c : Nat) (B O C : Nat → Nat) (f : Nat → Nat → Nat → Int) (s : Nat) (w : World) (h : OccP w b off n B O C (occ n f)) (h0 : 0 < n) (h16 : n ≤ 16) (hs : s < 2 ^ n) :
    Calls Tryd.prog 62 #[.slice (some ⟨b, off, none⟩) n c, .int .i64 s] w fun e w' => ∃ g, e = .returned (.int .i64 (g : Nat)) ∧ IsGen n f s g ∧ Below w.heap.size w w' := by
  have hp := pow_le16 h16
  have h1n : 1 < 2 ^ n := Nat.one_lt_two_pow (by omega)
  have hs6 : s < 65536 := by omega
  have HO := Lib.hid h
  clear h
  have hor : bits .or .i64 (s : Int) 1 = ((s ||| 1 : Nat) : Int) := or_i64 (show s < 4611686018427387904 by omega) (show 1 < 4611686018427387904 by omega)
  go_enter Tryd.func62, Tryd.ntmps62
  go_wp2_with fail
  go_loopw [1] (fun v wr => ∃ t : Nat, v = .int .i64 t ∧ t < 2 ^ n ∧ subS (s ||| 1) t ∧ (∀ T, Sbr n f T → subS s T → subS t T) ∧ Below w.heap.size w wr) (fun v _ => 65536 - (intOf v).toNat)
  case atStart =>
    refine ⟨s ||| 1, rfl, Nat.or_lt_two_pow hs h1n, fun _ h => h, fun T hT h k hk => ?_, Below.refl _ _⟩
    rcases or_bit.1 hk with hk | hk
    · exact h k hk
    · rw [(one_bit0 k).1 hk]; exact hT.2.1
  case round =>
    obtain ⟨t, rfl, ht, hsub, hmin, hbw⟩ := hrel
    have HS := Lib.hid hsub
    have HM := Lib.hid hmin
    have HB := Lib.hid hbw
    clear hsub hmin hbw hor
    have ht6 : t < 65536 := by omega
    have HC := Lib.hid (isClosed_f b off n c B O C (occ n f) t wr (HO.out.below HB.out (Nat.le_refl _)) h16 ht (fun i j _ _ => Nat.lt_of_lt_of_le (occ_lt n f i j) hp))
    have hl := prl_occ_lt (n := n) (f := f) (xs := lbl t) (ys := lbl t)
    have HP := Lib.hid (fun u (hu : Below w.heap.size w u) => product_f b off n c B O C (occ n f) t t u (HO.out.below hu (Nat.le_refl _)) h16 ht ht (fun i j _ _ => Nat.lt_of_lt_of_le (occ_lt n f i j) hp))
    have hor := or_i64 (show t < 4611686018427387904 by omega) (show prl (occ n f) (lbl t) (lbl t) < 4611686018427387904 by omega)
    go_wp2_with fail
    refine HC.out.mono ?_
    rintro e w1 ⟨r, rfl, hr, hb1⟩
    have HR := Lib.hid hr
    have HB1 := Lib.hid (HB.out.trans (hb1.mono HB.out.size))
    clear hr hb1
    cases r
    · have HN := Lib.hid (gen_more (n := n) (f := f) (t := t) fun hc => by cases HR.out.2 hc)
      go_wp2_with fail
      refine (HP.out _ HB1.out).mono ?_
      rintro e w2 ⟨rfl, hb2⟩
      have HB2 := Lib.hid (HB1.out.trans (hb2.mono HB1.out.size))
      clear hb2
      go_wp2_with fail
      have hg := HN.out
      refine ⟨⟨t ||| prl (occ n f) (lbl t) (lbl t), rfl, Nat.or_lt_two_pow ht hl, fun k hk => or_bit.2 (.inl (HS.out k hk)), fun T hT h => gen_step h16 ht hT (HM.out T hT h), HB2.out⟩, ?_⟩
      simp only [intOf]
      omega
    · go_wp2_with fail
      go_ret
      exact ⟨t, rfl, ⟨⟨ht, HS.out 0 (or_bit.2 (.inr ((one_bit0 0).2 rfl))), (clo_iff h16 ht).1 (HR.out.1 (by trivial))⟩, fun k hk => HS.out k (or_bit.2 (.inl hk)), HM.out⟩, HB1.out⟩
end Go.Proofs.YtpfodikmidgpmaaDoor
