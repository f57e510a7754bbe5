/- Families of rings (the program's): products of dihedral groups. -/
import Derived.Test.YtfiilhoojoaflaaFpD
namespace Go.Proofs.Ytfiilhoojoaflaa
open Go.RowKit
set_option linter.unusedSimpArgs false
set_option linter.unusedVariables false
theorem dh1 {n x y : Nat} (hx : x < 2 * n) (hy : y < 2 * n) (h : x < n) (g : y < n) : dhZ n x y = (x + y % n) % n := by
  rw [dh_row hx hy, if_neg (by omega), if_neg (by simp; omega), Nat.add_zero]
theorem dh2 {n x y : Nat} (hx : x < 2 * n) (hy : y < 2 * n) (h : x < n) (g : n ≤ y) : dhZ n x y = (x + y % n) % n + n := by
  rw [dh_row hx hy, if_neg (by omega), if_pos (by simp; omega)]
theorem dh3 {n x y : Nat} (hx : x < 2 * n) (hy : y < 2 * n) (h : n ≤ x) (g : y < n) : dhZ n x y = (x + (n - y % n)) % n + n := by
  rw [dh_row hx hy, if_pos h, if_pos (by simp; omega)]
theorem dh4 {n x y : Nat} (hx : x < 2 * n) (hy : y < 2 * n) (h : n ≤ x) (g : n ≤ y) : dhZ n x y = (x + (n - y % n)) % n := by
  rw [dh_row hx hy, if_pos h, if_neg (by simp; omega), Nat.add_zero]
set_option maxRecDepth 100000 in
set_option maxHeartbeats 1000000 in
theorem dhcase1 (n i j N A z : Nat) (w : World) (hn : n ≤ 8) (hi : i < N) (hj : j < N) (hN : N ≤ 16) (h0 : 0 < n) (hx : i < n) (hg : j < n)
    (HR : ∀ u, Calls Try.prog 121 #[.agg #[.int .i64 n]] u fun e w' => e = .returned (.int .i64 N) ∧ Below u.heap.size u w')
    (HV : ∀ u, Calls Try.prog 87 #[.int .i64 N, .int .i64 ((z : Nat) : Int)] u fun e w' => ∃ g, e = .returned (.slice (some ⟨g, 0, none⟩) N N) ∧ u.heap.size ≤ g ∧ RowI w' 2 g N (oneZ (z)) ∧ Below u.heap.size u w')
    (hA : A = i + (j % n)) (hz : z = A % n) :
    Calls Try.prog 120 #[.agg #[.int .i64 n], .int .i64 i, .int .i64 j] w (RowN w N (oneZ (z))) := by
  have HV := Lib.hid HV
  have HR := Lib.hid HR
  have hz0 : ((n : Int) == 0) = false := by simp; omega
  have ey : (j : Int).tmod (n : Int) = ((j % n : Nat) : Int) := by rw [Int.tmod_eq_emod_of_nonneg (by omega), ← Int.natCast_emod]
  have hjm := Nat.mod_lt j h0
  have hzm : z < n := by rw [hz]; exact Nat.mod_lt A h0
  obtain ⟨y, hy⟩ : ∃ y, y = j % n := ⟨_, rfl⟩
  rw [← hy] at ey hjm hA
  clear hy
  have s0 : IntKind.i64.wrap (y : Int) = (y : Int) := IntWalk.i64_in _ (by omega)
  have s1 : IntKind.i64.wrap ((n : Int) - (y : Int)) = ((n - y : Nat) : Int) := by rw [IntWalk.i64_in _ (by omega)]; omega
  have hAb : A ≤ 40 := by omega
  have s2 : IntKind.i64.wrap ((i : Int) + (y : Int)) = (A : Int) := by rw [IntWalk.i64_in _ (by omega)]; omega
  have t2 : (A : Int).tmod (n : Int) = (z : Int) := by rw [hz, Int.tmod_eq_emod_of_nonneg (by omega), ← Int.natCast_emod]
  have u2 : IntKind.i64.wrap (z : Int) = (z : Int) := IntWalk.i64_in _ (by omega)
  have u4 : IntKind.i64.wrap ((z : Int) + (n : Int)) = ((z + n : Nat) : Int) := by rw [IntWalk.i64_in _ (by omega)]; omega
  have HB0 := Lib.hid (below_alloc w (.cells #[.int .i64 n] 64))
  clear hz hA hAb
  go_enter Try.func120, Try.ntmps120
  go_wp2_with fail
  refine (HR.out _).mono ?_
  rintro e w1 ⟨rfl, hb1⟩
  have HB1 := Lib.hid (HB0.out.trans (hb1.mono HB0.out.size))
  clear hb1
  go_wp2_with fail
  refine (HV.out _).mono ?_
  rintro e w2 ⟨g, rfl, hg, hr, hb2⟩
  have HB2 := Lib.hid (HB1.out.trans (hb2.mono HB1.out.size))
  have HG := Lib.hid (Nat.le_trans HB1.out.size hg)
  have HRg := Lib.hid hr
  clear hg hr hb2
  go_wp2_with fail
  go_ret
  exact ⟨g, _, rfl, Nat.le_refl _, by unfold maxLen; omega, HG.out, HRg.out, HB2.out⟩
  
set_option maxRecDepth 100000 in
set_option maxHeartbeats 1000000 in
theorem dhcase2 (n i j N A z : Nat) (w : World) (hn : n ≤ 8) (hi : i < N) (hj : j < N) (hN : N ≤ 16) (h0 : 0 < n) (hx : i < n) (hg : n ≤ j)
    (HR : ∀ u, Calls Try.prog 121 #[.agg #[.int .i64 n]] u fun e w' => e = .returned (.int .i64 N) ∧ Below u.heap.size u w')
    (HV : ∀ u, Calls Try.prog 87 #[.int .i64 N, .int .i64 ((z + n : Nat) : Int)] u fun e w' => ∃ g, e = .returned (.slice (some ⟨g, 0, none⟩) N N) ∧ u.heap.size ≤ g ∧ RowI w' 2 g N (oneZ (z + n)) ∧ Below u.heap.size u w')
    (hA : A = i + (j % n)) (hz : z = A % n) :
    Calls Try.prog 120 #[.agg #[.int .i64 n], .int .i64 i, .int .i64 j] w (RowN w N (oneZ (z + n))) := by
  have HV := Lib.hid HV
  have HR := Lib.hid HR
  have hz0 : ((n : Int) == 0) = false := by simp; omega
  have ey : (j : Int).tmod (n : Int) = ((j % n : Nat) : Int) := by rw [Int.tmod_eq_emod_of_nonneg (by omega), ← Int.natCast_emod]
  have hjm := Nat.mod_lt j h0
  have hzm : z < n := by rw [hz]; exact Nat.mod_lt A h0
  obtain ⟨y, hy⟩ : ∃ y, y = j % n := ⟨_, rfl⟩
  rw [← hy] at ey hjm hA
  clear hy
  have s0 : IntKind.i64.wrap (y : Int) = (y : Int) := IntWalk.i64_in _ (by omega)
  have s1 : IntKind.i64.wrap ((n : Int) - (y : Int)) = ((n - y : Nat) : Int) := by rw [IntWalk.i64_in _ (by omega)]; omega
  have hAb : A ≤ 40 := by omega
  have s2 : IntKind.i64.wrap ((i : Int) + (y : Int)) = (A : Int) := by rw [IntWalk.i64_in _ (by omega)]; omega
  have t2 : (A : Int).tmod (n : Int) = (z : Int) := by rw [hz, Int.tmod_eq_emod_of_nonneg (by omega), ← Int.natCast_emod]
  have u2 : IntKind.i64.wrap (z : Int) = (z : Int) := IntWalk.i64_in _ (by omega)
  have u4 : IntKind.i64.wrap ((z : Int) + (n : Int)) = ((z + n : Nat) : Int) := by rw [IntWalk.i64_in _ (by omega)]; omega
  have HB0 := Lib.hid (below_alloc w (.cells #[.int .i64 n] 64))
  clear hz hA hAb
  go_enter Try.func120, Try.ntmps120
  go_wp2_with fail
  refine (HR.out _).mono ?_
  rintro e w1 ⟨rfl, hb1⟩
  have HB1 := Lib.hid (HB0.out.trans (hb1.mono HB0.out.size))
  clear hb1
  go_wp2_with fail
  refine (HV.out _).mono ?_
  rintro e w2 ⟨g, rfl, hg, hr, hb2⟩
  have HB2 := Lib.hid (HB1.out.trans (hb2.mono HB1.out.size))
  have HG := Lib.hid (Nat.le_trans HB1.out.size hg)
  have HRg := Lib.hid hr
  clear hg hr hb2
  go_wp2_with fail
  go_ret
  exact ⟨g, _, rfl, Nat.le_refl _, by unfold maxLen; omega, HG.out, HRg.out, HB2.out⟩
  
set_option maxRecDepth 100000 in
set_option maxHeartbeats 1000000 in
theorem dhcase3 (n i j N A z : Nat) (w : World) (hn : n ≤ 8) (hi : i < N) (hj : j < N) (hN : N ≤ 16) (h0 : 0 < n) (hx : n ≤ i) (hg : j < n)
    (HR : ∀ u, Calls Try.prog 121 #[.agg #[.int .i64 n]] u fun e w' => e = .returned (.int .i64 N) ∧ Below u.heap.size u w')
    (HV : ∀ u, Calls Try.prog 87 #[.int .i64 N, .int .i64 ((z + n : Nat) : Int)] u fun e w' => ∃ g, e = .returned (.slice (some ⟨g, 0, none⟩) N N) ∧ u.heap.size ≤ g ∧ RowI w' 2 g N (oneZ (z + n)) ∧ Below u.heap.size u w')
    (hA : A = i + (n - j % n)) (hz : z = A % n) :
    Calls Try.prog 120 #[.agg #[.int .i64 n], .int .i64 i, .int .i64 j] w (RowN w N (oneZ (z + n))) := by
  have HV := Lib.hid HV
  have HR := Lib.hid HR
  have hz0 : ((n : Int) == 0) = false := by simp; omega
  have ey : (j : Int).tmod (n : Int) = ((j % n : Nat) : Int) := by rw [Int.tmod_eq_emod_of_nonneg (by omega), ← Int.natCast_emod]
  have hjm := Nat.mod_lt j h0
  have hzm : z < n := by rw [hz]; exact Nat.mod_lt A h0
  obtain ⟨y, hy⟩ : ∃ y, y = j % n := ⟨_, rfl⟩
  rw [← hy] at ey hjm hA
  clear hy
  have s0 : IntKind.i64.wrap (y : Int) = (y : Int) := IntWalk.i64_in _ (by omega)
  have s1 : IntKind.i64.wrap ((n : Int) - (y : Int)) = ((n - y : Nat) : Int) := by rw [IntWalk.i64_in _ (by omega)]; omega
  have hAb : A ≤ 40 := by omega
  have s2 : IntKind.i64.wrap ((i : Int) + ((n - y : Nat) : Int)) = (A : Int) := by rw [IntWalk.i64_in _ (by omega)]; omega
  have t2 : (A : Int).tmod (n : Int) = (z : Int) := by rw [hz, Int.tmod_eq_emod_of_nonneg (by omega), ← Int.natCast_emod]
  have u2 : IntKind.i64.wrap (z : Int) = (z : Int) := IntWalk.i64_in _ (by omega)
  have u4 : IntKind.i64.wrap ((z : Int) + (n : Int)) = ((z + n : Nat) : Int) := by rw [IntWalk.i64_in _ (by omega)]; omega
  have HB0 := Lib.hid (below_alloc w (.cells #[.int .i64 n] 64))
  clear hz hA hAb
  go_enter Try.func120, Try.ntmps120
  go_wp2_with fail
  refine (HR.out _).mono ?_
  rintro e w1 ⟨rfl, hb1⟩
  have HB1 := Lib.hid (HB0.out.trans (hb1.mono HB0.out.size))
  clear hb1
  go_wp2_with fail
  refine (HV.out _).mono ?_
  rintro e w2 ⟨g, rfl, hg, hr, hb2⟩
  have HB2 := Lib.hid (HB1.out.trans (hb2.mono HB1.out.size))
  have HG := Lib.hid (Nat.le_trans HB1.out.size hg)
  have HRg := Lib.hid hr
  clear hg hr hb2
  go_wp2_with fail
  go_ret
  exact ⟨g, _, rfl, Nat.le_refl _, by unfold maxLen; omega, HG.out, HRg.out, HB2.out⟩
  exact absurd (of_decide_eq_true (show decide (n ≤ j) = true from (by have h : (!decide (n ≤ j)) = false := (by assumption); simpa using h))) (by omega)
set_option maxRecDepth 100000 in
set_option maxHeartbeats 1000000 in
theorem dhcase4 (n i j N A z : Nat) (w : World) (hn : n ≤ 8) (hi : i < N) (hj : j < N) (hN : N ≤ 16) (h0 : 0 < n) (hx : n ≤ i) (hg : n ≤ j)
    (HR : ∀ u, Calls Try.prog 121 #[.agg #[.int .i64 n]] u fun e w' => e = .returned (.int .i64 N) ∧ Below u.heap.size u w')
    (HV : ∀ u, Calls Try.prog 87 #[.int .i64 N, .int .i64 ((z : Nat) : Int)] u fun e w' => ∃ g, e = .returned (.slice (some ⟨g, 0, none⟩) N N) ∧ u.heap.size ≤ g ∧ RowI w' 2 g N (oneZ (z)) ∧ Below u.heap.size u w')
    (hA : A = i + (n - j % n)) (hz : z = A % n) :
    Calls Try.prog 120 #[.agg #[.int .i64 n], .int .i64 i, .int .i64 j] w (RowN w N (oneZ (z))) := by
  have HV := Lib.hid HV
  have HR := Lib.hid HR
  have hz0 : ((n : Int) == 0) = false := by simp; omega
  have ey : (j : Int).tmod (n : Int) = ((j % n : Nat) : Int) := by rw [Int.tmod_eq_emod_of_nonneg (by omega), ← Int.natCast_emod]
  have hjm := Nat.mod_lt j h0
  have hzm : z < n := by rw [hz]; exact Nat.mod_lt A h0
  obtain ⟨y, hy⟩ : ∃ y, y = j % n := ⟨_, rfl⟩
  rw [← hy] at ey hjm hA
  clear hy
  have s0 : IntKind.i64.wrap (y : Int) = (y : Int) := IntWalk.i64_in _ (by omega)
  have s1 : IntKind.i64.wrap ((n : Int) - (y : Int)) = ((n - y : Nat) : Int) := by rw [IntWalk.i64_in _ (by omega)]; omega
  have hAb : A ≤ 40 := by omega
  have s2 : IntKind.i64.wrap ((i : Int) + ((n - y : Nat) : Int)) = (A : Int) := by rw [IntWalk.i64_in _ (by omega)]; omega
  have t2 : (A : Int).tmod (n : Int) = (z : Int) := by rw [hz, Int.tmod_eq_emod_of_nonneg (by omega), ← Int.natCast_emod]
  have u2 : IntKind.i64.wrap (z : Int) = (z : Int) := IntWalk.i64_in _ (by omega)
  have u4 : IntKind.i64.wrap ((z : Int) + (n : Int)) = ((z + n : Nat) : Int) := by rw [IntWalk.i64_in _ (by omega)]; omega
  have HB0 := Lib.hid (below_alloc w (.cells #[.int .i64 n] 64))
  clear hz hA hAb
  go_enter Try.func120, Try.ntmps120
  go_wp2_with fail
  refine (HR.out _).mono ?_
  rintro e w1 ⟨rfl, hb1⟩
  have HB1 := Lib.hid (HB0.out.trans (hb1.mono HB0.out.size))
  clear hb1
  go_wp2_with fail
  refine (HV.out _).mono ?_
  rintro e w2 ⟨g, rfl, hg, hr, hb2⟩
  have HB2 := Lib.hid (HB1.out.trans (hb2.mono HB1.out.size))
  have HG := Lib.hid (Nat.le_trans HB1.out.size hg)
  have HRg := Lib.hid hr
  clear hg hr hb2
  go_wp2_with fail
  go_ret
  exact ⟨g, _, rfl, Nat.le_refl _, by unfold maxLen; omega, HG.out, HRg.out, HB2.out⟩
  
theorem rowN_of {w : World} {n : Nat} {f g : Nat → Int} {e : Ending} {w' : World} (h : RowN w n f e w') (hfg : ∀ k, k < n → f k = g k) : RowN w n g e w' := by
  obtain ⟨b, c, h1, h2, h3, h4, h5, h6⟩ := h
  exact ⟨b, c, h1, h2, h3, h4, h5.congr hfg, h6⟩
theorem dihedralGroup_product (n i j : Nat) (w : World) (hn : n ≤ 8) (hi : i < 2 * n) (hj : j < 2 * n) : Calls Try.prog 120 #[.agg #[.int .i64 n], .int .i64 i, .int .i64 j] w (RowN w (2 * n) (dhF n i j)) := by
  have hR : ∀ u, Calls Try.prog 121 #[.agg #[.int .i64 n]] u fun e w' => e = .returned (.int .i64 (2 * n : Nat)) ∧ Below u.heap.size u w' := fun u => dihedralGroup_rank n u (by omega)
  have hl := dhZ_lt (x := i) (y := j) (show 0 < n by omega)
  have hV : ∀ z, dhZ n i j = z → ∀ u, Calls Try.prog 87 #[.int .i64 (2 * n : Nat), .int .i64 (z : Nat)] u fun e w' => ∃ g, e = .returned (.slice (some ⟨g, 0, none⟩) (2 * n : Nat) (2 * n : Nat)) ∧ u.heap.size ≤ g ∧ RowI w' 2 g (2 * n) (oneZ z) ∧ Below u.heap.size u w' :=
    fun z hz u => vectorWith_f (2 * n) z u (by omega) (by omega)
  have hF : ∀ z, dhZ n i j = z → ∀ k, oneZ z k = dhF n i j k := fun z hz k => by unfold oneZ dhF; rw [hz]
  by_cases hx : i < n
  · by_cases hy : j < n
    · have e := dh1 hi hj hx hy
      exact (dhcase1 n i j (2 * n) _ _ w hn hi hj (by omega) (by omega) hx hy hR (hV _ e) rfl rfl).mono fun _ _ h => rowN_of h fun k _ => hF _ e k
    · have e := dh2 hi hj hx (Nat.not_lt.1 hy)
      exact (dhcase2 n i j (2 * n) _ _ w hn hi hj (by omega) (by omega) hx (Nat.not_lt.1 hy) hR (hV _ e) rfl rfl).mono fun _ _ h => rowN_of h fun k _ => hF _ e k
  · by_cases hy : j < n
    · have e := dh3 hi hj (Nat.not_lt.1 hx) hy
      exact (dhcase3 n i j (2 * n) _ _ w hn hi hj (by omega) (by omega) (Nat.not_lt.1 hx) hy hR (hV _ e) rfl rfl).mono fun _ _ h => rowN_of h fun k _ => hF _ e k
    · have e := dh4 hi hj (Nat.not_lt.1 hx) (Nat.not_lt.1 hy)
      exact (dhcase4 n i j (2 * n) _ _ w hn hi hj (by omega) (by omega) (Nat.not_lt.1 hx) (Nat.not_lt.1 hy) hR (hV _ e) rfl rfl).mono fun _ _ h => rowN_of h fun k _ => hF _ e k
end Go.Proofs.Ytfiilhoojoaflaa
