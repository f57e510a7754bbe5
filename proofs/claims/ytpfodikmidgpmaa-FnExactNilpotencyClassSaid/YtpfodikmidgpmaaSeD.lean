/- NilpotencyClass of both. -/
import Derived.Test.YtpfodikmidgpmaaSeC
namespace Go.Proofs.Ytpfodikmidgpmaa
open Go.RowKit
set_option linter.unusedSimpArgs false
set_option linter.unusedVariables false
/-- the class, and its code -/
noncomputable def nlV (r : Bool) (n : Nat) (f : Nat → Nat → Nat → Int) : Int := if r = true ∧ adI n f (sTop n f) = 1 then (sTop n f : Nat) else 0
noncomputable def nlC (r : Bool) (n : Nat) (f : Nat → Nat → Nat → Int) : Int := if r = true then (if adI n f (sTop n f) = 1 then 0 else 4) else 1
set_option maxRecDepth 100000 in
theorem implNil_f (a : Option Addr) (n c : Nat) (M : Nat → Nat) (L : Nat → Nat → Nat) (f : Nat → Nat → Nat → Int) (w : World) (h : RdT w a n M L f) (hn : n ≤ 1048576) (hM : ∀ i, i < n → M i ≤ 1048576) (hL : ∀ i, i < n → ∀ j, j < M i → L i j ≤ 1048576) :
    Calls Try.prog 36 #[.agg #[.slice a n c]] w (IntRes w (nlV (ringB n M L f) n f) (nlC (ringB n M L f) n f)) := by
  have HS := Lib.hid (fun u (hu : Below w.heap.size w u) => implSer_f a n c M L f u (h.below hu (Nat.le_refl _)) hn hM hL)
  clear h hM hL
  cases hr : ringB n M L f
  · have HV := Lib.hid (show nlV false n f = 0 by simp [nlV])
    have HC := Lib.hid (show nlC false n f = 1 by simp [nlC])
    rw [HV.out, HC.out]
    rw [hr] at HS
    have HK := Lib.hid (show cRg false = 1 from rfl)
    rw [HK.out] at HS
    clear hr
    go_enter Try.func36, Try.ntmps36
    go_wp2_with fail
    refine (HS.out _ (by first | exact Below.refl _ _ | exact below_alloc _ _)).mono ?_
    rintro e w1 ⟨a1, c1, rfl, _, hb⟩
    have HB := Lib.hid (show Below w.heap.size w w1 from by first | exact hb | exact (below_alloc _ _).trans (hb.mono (by simp)))
    clear hb
    go_wp2_with fail
    go_ret2
    exact ⟨rfl, HB.out⟩
  · have HTl := Lib.hid (sTop_le (rng_of hr))
    rw [hr] at HS
    have HK := Lib.hid (show cRg true = 0 from rfl)
    have HN := Lib.hid (show nRg true (sTop n f + 1) = sTop n f + 1 from rfl)
    rw [HK.out, HN.out] at HS
    clear hr
    obtain ⟨k, hk⟩ : ∃ k, k = sTop n f := ⟨_, rfl⟩
    have HKe := Lib.hid hk
    rw [← hk] at HS HTl
    clear hk
    have HI := Lib.hid (show wrap64 (((k + 1 : Nat) : Int) - 1) = (k : Int) by have := HTl.out; simp [wrap64]; omega)
    by_cases h1 : adI n f k = 1
    · have HV := Lib.hid (show nlV true n f = (k : Nat) by unfold nlV; rw [← HKe.out, if_pos ⟨rfl, h1⟩])
      have HC := Lib.hid (show nlC true n f = 0 by unfold nlC; rw [← HKe.out, if_pos rfl, if_pos h1])
      rw [HV.out, HC.out]
      have HX := Lib.hid h1
      clear h1
      go_enter Try.func36, Try.ntmps36
      go_wp2_with fail
      refine (HS.out _ (by first | exact Below.refl _ _ | exact below_alloc _ _)).mono ?_
      rintro e w1 ⟨a1, c1, rfl, hown, hb⟩
      have HB := Lib.hid (show Below w.heap.size w w1 from by first | exact hb | exact (below_alloc _ _).trans (hb.mono (by simp)))
      rcases hown with hz | ⟨g, rfl, hg, hrow⟩
      · omega
      · have e1 : w1.cell? ⟨g, k, none⟩ = some (.int .i64 1) := (RowB.cell hrow (show k < k + 1 by omega)).trans (by show some (Value.int .i64 ((adI n f k : Nat) : Int)) = _; rw [HX.out]; rfl)
        have hlt := HTl.out
        have hi := HI.out
        clear hb hrow hg
        go_wp2_with fail
        go_ret2
        exact ⟨rfl, HB.out⟩
    · have HV := Lib.hid (show nlV true n f = 0 by unfold nlV; rw [← HKe.out, if_neg (fun h => h1 h.2)])
      have HC := Lib.hid (show nlC true n f = 4 by unfold nlC; rw [← HKe.out, if_pos rfl, if_neg h1])
      rw [HV.out, HC.out]
      have hd : ((adI n f k : Int) != 1) = true := by simp; omega
      have HX := Lib.hid hd
      clear h1 hd
      go_enter Try.func36, Try.ntmps36
      go_wp2_with fail
      refine (HS.out _ (by first | exact Below.refl _ _ | exact below_alloc _ _)).mono ?_
      rintro e w1 ⟨a1, c1, rfl, hown, hb⟩
      have HB := Lib.hid (show Below w.heap.size w w1 from by first | exact hb | exact (below_alloc _ _).trans (hb.mono (by simp)))
      rcases hown with hz | ⟨g, rfl, hg, hrow⟩
      · omega
      · have e1 : w1.cell? ⟨g, k, none⟩ = some (.int .i64 (adI n f k : Nat)) := RowB.cell hrow (show k < k + 1 by omega)
        have hlt := HTl.out
        have hi := HI.out
        have hd := HX.out
        clear hb hrow hg
        go_wp2_with fail
        go_ret2
        exact ⟨rfl, HB.out⟩
set_option maxRecDepth 100000 in
theorem specNil_f (a : Option Addr) (n c : Nat) (M : Nat → Nat) (L : Nat → Nat → Nat) (f : Nat → Nat → Nat → Int) (w : World) (h : RdT w a n M L f) (hn : n ≤ 1048576) (hM : ∀ i, i < n → M i ≤ 1048576) (hL : ∀ i, i < n → ∀ j, j < M i → L i j ≤ 1048576) :
    Calls Try.prog 35 #[.agg #[.slice a n c]] w (IntRes w (nlV (ringB n M L f) n f) (nlC (ringB n M L f) n f)) := by
  have HS := Lib.hid (fun u (hu : Below w.heap.size w u) => specSer_f a n c M L f u (h.below hu (Nat.le_refl _)) hn hM hL)
  clear h hM hL
  cases hr : ringB n M L f
  · have HV := Lib.hid (show nlV false n f = 0 by simp [nlV])
    have HC := Lib.hid (show nlC false n f = 1 by simp [nlC])
    rw [HV.out, HC.out]
    rw [hr] at HS
    have HK := Lib.hid (show cRg false = 1 from rfl)
    rw [HK.out] at HS
    clear hr
    go_enter Try.func35, Try.ntmps35
    go_wp2_with fail
    refine (HS.out _ (by first | exact Below.refl _ _ | exact below_alloc _ _)).mono ?_
    rintro e w1 ⟨a1, c1, rfl, _, hb⟩
    have HB := Lib.hid (show Below w.heap.size w w1 from by first | exact hb | exact (below_alloc _ _).trans (hb.mono (by simp)))
    clear hb
    go_wp2_with fail
    go_ret2
    exact ⟨rfl, HB.out⟩
  · have HTl := Lib.hid (sTop_le (rng_of hr))
    rw [hr] at HS
    have HK := Lib.hid (show cRg true = 0 from rfl)
    have HN := Lib.hid (show nRg true (sTop n f + 1) = sTop n f + 1 from rfl)
    rw [HK.out, HN.out] at HS
    clear hr
    obtain ⟨k, hk⟩ : ∃ k, k = sTop n f := ⟨_, rfl⟩
    have HKe := Lib.hid hk
    rw [← hk] at HS HTl
    clear hk
    have HI := Lib.hid (show wrap64 (((k + 1 : Nat) : Int) - 1) = (k : Int) by have := HTl.out; simp [wrap64]; omega)
    by_cases h1 : adI n f k = 1
    · have HV := Lib.hid (show nlV true n f = (k : Nat) by unfold nlV; rw [← HKe.out, if_pos ⟨rfl, h1⟩])
      have HC := Lib.hid (show nlC true n f = 0 by unfold nlC; rw [← HKe.out, if_pos rfl, if_pos h1])
      rw [HV.out, HC.out]
      have HX := Lib.hid h1
      clear h1
      go_enter Try.func35, Try.ntmps35
      go_wp2_with fail
      refine (HS.out _ (by first | exact Below.refl _ _ | exact below_alloc _ _)).mono ?_
      rintro e w1 ⟨a1, c1, rfl, hown, hb⟩
      have HB := Lib.hid (show Below w.heap.size w w1 from by first | exact hb | exact (below_alloc _ _).trans (hb.mono (by simp)))
      rcases hown with hz | ⟨g, rfl, hg, hrow⟩
      · omega
      · have e1 : w1.cell? ⟨g, k, none⟩ = some (.int .i64 1) := (RowB.cell hrow (show k < k + 1 by omega)).trans (by show some (Value.int .i64 ((adI n f k : Nat) : Int)) = _; rw [HX.out]; rfl)
        have hlt := HTl.out
        have hi := HI.out
        clear hb hrow hg
        go_wp2_with fail
        go_ret2
        exact ⟨rfl, HB.out⟩
    · have HV := Lib.hid (show nlV true n f = 0 by unfold nlV; rw [← HKe.out, if_neg (fun h => h1 h.2)])
      have HC := Lib.hid (show nlC true n f = 4 by unfold nlC; rw [← HKe.out, if_pos rfl, if_neg h1])
      rw [HV.out, HC.out]
      have hd : ((adI n f k : Int) != 1) = true := by simp; omega
      have HX := Lib.hid hd
      clear h1 hd
      go_enter Try.func35, Try.ntmps35
      go_wp2_with fail
      refine (HS.out _ (by first | exact Below.refl _ _ | exact below_alloc _ _)).mono ?_
      rintro e w1 ⟨a1, c1, rfl, hown, hb⟩
      have HB := Lib.hid (show Below w.heap.size w w1 from by first | exact hb | exact (below_alloc _ _).trans (hb.mono (by simp)))
      rcases hown with hz | ⟨g, rfl, hg, hrow⟩
      · omega
      · have e1 : w1.cell? ⟨g, k, none⟩ = some (.int .i64 (adI n f k : Nat)) := RowB.cell hrow (show k < k + 1 by omega)
        have hlt := HTl.out
        have hi := HI.out
        have hd := HX.out
        clear hb hrow hg
        go_wp2_with fail
        go_ret2
        exact ⟨rfl, HB.out⟩
end Go.Proofs.Ytpfodikmidgpmaa
