/- DotOf. -/
import Derived.Test.YtjmkmcabpjmkgabSlcD
import Derived.Deep.QuietTactic
namespace Go.Proofs.Ytjmkmcabpjmkgab
open Go.RowKit
def dotOk (xs ys : List Int) : Prop := xs.length = ys.length ∧ xs.length ≤ 64 ∧ xs.all numB = true ∧ ys.all numB = true
instance (xs ys : List Int) : Decidable (dotOk xs ys) := by unfold dotOk; exact inferInstance
def fDot (xs ys : List Int) : Int := if dotOk xs ys then dotTo xs ys xs.length else 0
def cDot (xs ys : List Int) : Int := if dotOk xs ys then 0 else 2
theorem dot_bad {xs ys : List Int} (h : ¬ dotOk xs ys) : (0 : Int) = fDot xs ys ∧ (2 : Int) = cDot xs ys := by simp [fDot, cDot, h]
theorem dot_good {xs ys : List Int} {n : Nat} (hl : xs.length = n) (h : dotOk xs ys) : dotTo xs ys n = fDot xs ys ∧ (0 : Int) = cDot xs ys := by simp [fDot, cDot, h, hl]
theorem times_any (a b : Int) (w : World) (h0 : 0 ≤ a) (h1 : a < 55441) (h2 : 0 ≤ b) (h3 : b < 55441) : Calls Try.prog 24 #[.int .i64 a, .int .i64 b] w fun e w' => e = .returned (.int .i64 (a * b % 55441)) ∧ w' = w := by
  obtain ⟨m0, m1⟩ := mul_bound a b h0 h1 h2 h3
  go_enter Try.func24, Try.ntmps24
  go_wp2
  go_ret
  exact ⟨rfl, rfl⟩
theorem plus_any (a b : Int) (w : World) (h0 : 0 ≤ a) (h1 : a < 55441) (h2 : 0 ≤ b) (h3 : b < 55441) : Calls Try.prog 23 #[.int .i64 a, .int .i64 b] w fun e w' => e = .returned (.int .i64 ((a + b) % 55441)) ∧ w' = w := by
  go_enter Try.func23, Try.ntmps23
  go_wp2
  go_ret
  exact ⟨rfl, rfl⟩
theorem specDot_any (a b : Option Addr) (n m c d : Nat) (xs ys : List Int) (w : World) (ha : RdI w a n xs) (hb : RdI w b m ys) (hn : n ≤ 1048576) (hm : m ≤ 1048576) :
    Calls Try.prog 10 #[.slice a n c, .slice b m d] w fun e w' => e = .returned (.tuple #[.int .i64 (fDot xs ys), .int .i64 (cDot xs ys)]) ∧ Below w.heap.size w w' := by
  have hl := ha.len
  have hl' := hb.len
  by_cases hnm : n = m
  · subst hnm
    have hq : ((n : Int) != (n : Int)) = false := by simp
    by_cases h64 : 64 < n
    · have H := Lib.hid (dot_bad (xs := xs) (ys := ys) (by unfold dotOk; omega))
      clear hl hl'
      go_enter Try.func10, Try.ntmps10
      go_wp2_with (first | (go_at_call 21; refine (l01Numbers_any _ _ _ _ _ (by assumption) (by omega)).mono ?_; rintro e w' ⟨rfl, rfl⟩) | (go_at_call 22; refine (l01Dot_any _ _ _ _ _ _ _ _ (by assumption) (by assumption) (by omega) (by assumption) (by assumption)).mono ?_; rintro e w' ⟨rfl, hb'⟩))
      go_ret2
      exact ⟨ret_pair H.out.1 H.out.2, Below.refl _ _⟩
    · have h64' : n ≤ 64 := by omega
      have hd : decide (64 < (n : Int)) = false := by simp; omega
      clear h64
      cases hx : xs.all numB
      · have H := Lib.hid (dot_bad (xs := xs) (ys := ys) (by unfold dotOk; simp [hx]))
        clear hl hl'
        go_enter Try.func10, Try.ntmps10
        go_wp2_with (first | (go_at_call 21; refine (l01Numbers_any _ _ _ _ _ (by assumption) (by omega)).mono ?_; rintro e w' ⟨rfl, rfl⟩) | (go_at_call 22; refine (l01Dot_any _ _ _ _ _ _ _ _ (by assumption) (by assumption) (by omega) (by assumption) (by assumption)).mono ?_; rintro e w' ⟨rfl, hb'⟩))
        go_ret2
        exact ⟨ret_pair H.out.1 H.out.2, Below.refl _ _⟩
      · cases hy : ys.all numB
        · have H := Lib.hid (dot_bad (xs := xs) (ys := ys) (by unfold dotOk; simp [hy]))
          clear hl hl'
          go_enter Try.func10, Try.ntmps10
          go_wp2_with (first | (go_at_call 21; refine (l01Numbers_any _ _ _ _ _ (by assumption) (by omega)).mono ?_; rintro e w' ⟨rfl, rfl⟩) | (go_at_call 22; refine (l01Dot_any _ _ _ _ _ _ _ _ (by assumption) (by assumption) (by omega) (by assumption) (by assumption)).mono ?_; rintro e w' ⟨rfl, hb'⟩))
          go_ret2
          exact ⟨ret_pair H.out.1 H.out.2, Below.refl _ _⟩
        · have H := Lib.hid (dot_good hl (ys := ys) (by unfold dotOk; exact ⟨by omega, by omega, hx, hy⟩))
          clear hl hl'
          go_enter Try.func10, Try.ntmps10
          go_wp2_with (first | (go_at_call 21; refine (l01Numbers_any _ _ _ _ _ (by assumption) (by omega)).mono ?_; rintro e w' ⟨rfl, rfl⟩) | (go_at_call 22; refine (l01Dot_any _ _ _ _ _ _ _ _ (by assumption) (by assumption) (by omega) (by assumption) (by assumption)).mono ?_; rintro e w' ⟨rfl, hb'⟩))
          go_ret2
          exact ⟨ret_pair H.out.1 H.out.2, hb'⟩
  · have H := Lib.hid (dot_bad (xs := xs) (ys := ys) (by unfold dotOk; omega))
    have hq : ((n : Int) != (m : Int)) = true := by simp; omega
    clear hl hl' hnm
    go_enter Try.func10, Try.ntmps10
    go_wp2_with (first | (go_at_call 21; refine (l01Numbers_any _ _ _ _ _ (by assumption) (by omega)).mono ?_; rintro e w' ⟨rfl, rfl⟩) | (go_at_call 22; refine (l01Dot_any _ _ _ _ _ _ _ _ (by assumption) (by assumption) (by omega) (by assumption) (by assumption)).mono ?_; rintro e w' ⟨rfl, hb'⟩))
    go_ret2
    exact ⟨ret_pair H.out.1 H.out.2, Below.refl _ _⟩
theorem implDot_eq (a b : Option Addr) (n c d : Nat) (xs ys : List Int) (w : World) (ha : RdI w a n xs) (hb : RdI w b n ys) (h64 : n ≤ 64) :
    Calls Try.prog 12 #[.slice a n c, .slice b n d] w fun e w' => e = .returned (.tuple #[.int .i64 (fDot xs ys), .int .i64 (cDot xs ys)]) ∧ Below w.heap.size w w' := by
  have Hl := Lib.hid ha.len
  have Hm := Lib.hid hb.len
  have hq : ((n : Int) != (n : Int)) = false := by simp
  have hd : decide (64 < (n : Int)) = false := by simp; omega
  have hca := ha.cells
  have hcb := hb.cells
  clear ha hb
  rcases hca with h0 | ⟨b1, o1, rfl, l1, c1⟩
  · have H0 := Lib.hid h0
    clear h0 hcb
    go_enter Try.func12, Try.ntmps12
    go_wp2_with fail
    go_loopw [6, 7, 20] (fun s _ i wr => ∃ k : Nat, k ≤ n ∧ i = .int .i64 k ∧ s = .int .i64 (dotTo xs ys k) ∧ Below w.heap.size w wr ∧ (∀ j, j < k → numB (xs.getD j 0) = true) ∧ (∀ j, j < k → numB (ys.getD j 0) = true)) (fun _ _ i _ => n - (intOf i).toNat)
    case atStart => exact ⟨0, by omega, rfl, rfl, Below.refl _ _, fun j hj => absurd hj (by omega), fun j hj => absurd hj (by omega)⟩
    case round =>
      obtain ⟨k, hk, rfl, rfl, hbl, hax, hay⟩ := hrel
      have Hax := Lib.hid hax
      have Hay := Lib.hid hay
      clear hax hay
      obtain ⟨d0, d1⟩ := dotTo_bd xs ys k
      by_cases hlt : k < n
      · have := H0.out; omega
      · obtain rfl : k = n := by omega
        have Hbl := Lib.hid hbl
        have H := Lib.hid (dot_good Hl.out (ys := ys) (by unfold dotOk; exact ⟨by rw [Hl.out, Hm.out], by rw [Hl.out]; exact h64, all_of Hl.out Hax.out, all_of Hm.out Hay.out⟩))
        clear hbl
        go_wp2_with fail
        go_ret2
        exact ⟨ret_pair H.out.1 H.out.2, Hbl.out⟩
  · rcases hcb with h0 | ⟨b2, o2, rfl, l2, c2⟩
    · have H0 := Lib.hid h0
      clear h0
      go_enter Try.func12, Try.ntmps12
      go_wp2_with fail
      go_loopw [6, 7, 20] (fun s _ i wr => ∃ k : Nat, k ≤ n ∧ i = .int .i64 k ∧ s = .int .i64 (dotTo xs ys k) ∧ Below w.heap.size w wr ∧ (∀ j, j < k → numB (xs.getD j 0) = true) ∧ (∀ j, j < k → numB (ys.getD j 0) = true)) (fun _ _ i _ => n - (intOf i).toNat)
      case atStart => exact ⟨0, by omega, rfl, rfl, Below.refl _ _, fun j hj => absurd hj (by omega), fun j hj => absurd hj (by omega)⟩
      case round =>
        obtain ⟨k, hk, rfl, rfl, hbl, hax, hay⟩ := hrel
        have Hax := Lib.hid hax
        have Hay := Lib.hid hay
        clear hax hay
        obtain ⟨d0, d1⟩ := dotTo_bd xs ys k
        by_cases hlt : k < n
        · have := H0.out; omega
        · obtain rfl : k = n := by omega
          have Hbl := Lib.hid hbl
          have H := Lib.hid (dot_good Hl.out (ys := ys) (by unfold dotOk; exact ⟨by rw [Hl.out, Hm.out], by rw [Hl.out]; exact h64, all_of Hl.out Hax.out, all_of Hm.out Hay.out⟩))
          clear hbl
          go_wp2_with fail
          go_ret2
          exact ⟨ret_pair H.out.1 H.out.2, Hbl.out⟩
    · have C1 := Lib.hid c1
      have C2 := Lib.hid c2
      clear c1 c2
      go_enter Try.func12, Try.ntmps12
      go_wp2_with fail
      go_loopw [6, 7, 20] (fun s _ i wr => ∃ k : Nat, k ≤ n ∧ i = .int .i64 k ∧ s = .int .i64 (dotTo xs ys k) ∧ Below w.heap.size w wr ∧ (∀ j, j < k → numB (xs.getD j 0) = true) ∧ (∀ j, j < k → numB (ys.getD j 0) = true)) (fun _ _ i _ => n - (intOf i).toNat)
      case atStart => exact ⟨0, by omega, rfl, rfl, Below.refl _ _, fun j hj => absurd hj (by omega), fun j hj => absurd hj (by omega)⟩
      case round =>
        obtain ⟨k, hk, rfl, rfl, hbl, hax, hay⟩ := hrel
        have Hax := Lib.hid hax
        have Hay := Lib.hid hay
        clear hax hay
        obtain ⟨d0, d1⟩ := dotTo_bd xs ys k
        by_cases hlt : k < n
        · have e1 : wr.cell? ⟨b1, o1 + k, none⟩ = some (.int .i64 (xs.getD k 0)) := by rw [hbl.cell (p := ⟨b1, o1 + k, none⟩) l1]; exact C1.out k hlt
          have e2 : wr.cell? ⟨b2, o2 + k, none⟩ = some (.int .i64 (ys.getD k 0)) := by rw [hbl.cell (p := ⟨b2, o2 + k, none⟩) l2]; exact C2.out k hlt
          have Hbl := Lib.hid hbl
          clear hbl
          have Hd := Lib.hid (show dotTo xs ys (k + 1) = (dotTo xs ys k + xs.getD k 0 * ys.getD k 0) % 55441 from rfl)
          obtain ⟨x, hx⟩ : ∃ x, x = xs.getD k 0 := ⟨_, rfl⟩
          obtain ⟨y, hy⟩ : ∃ y, y = ys.getD k 0 := ⟨_, rfl⟩
          rw [← hx] at e1 Hd
          rw [← hy] at e2 Hd
          have Hx := Lib.hid hx
          have Hy := Lib.hid hy
          clear hx hy
          generalize dotTo xs ys k = s at *
          cases hbx : numB x
          · have H := Lib.hid (dot_bad (xs := xs) (ys := ys) (by unfold dotOk; rw [not_all Hl.out hlt (by rw [← Hx.out]; exact hbx)]; simp))
            go_wp2_with (go_at_call 19; refine (isNumber_any _ _).mono ?_; rintro e w' ⟨rfl, rfl⟩)
            go_ret2
            exact ⟨ret_pair H.out.1 H.out.2, Hbl.out⟩
          · have x1 := numB_t hbx
            cases hby : numB y
            · have H := Lib.hid (dot_bad (xs := xs) (ys := ys) (by unfold dotOk; rw [not_all Hm.out hlt (by rw [← Hy.out]; exact hby)]; simp))
              go_wp2_with (go_at_call 19; refine (isNumber_any _ _).mono ?_; rintro e w' ⟨rfl, rfl⟩)
              go_ret2
              exact ⟨ret_pair H.out.1 H.out.2, Hbl.out⟩
            · have y1 := numB_t hby
              have Hnx := Lib.hid (show ∀ j, j < k + 1 → numB (xs.getD j 0) = true from fun j hj => by
                by_cases e : j = k
                · rw [e, ← Hx.out]; exact hbx
                · exact Hax.out j (by omega))
              have Hny := Lib.hid (show ∀ j, j < k + 1 → numB (ys.getD j 0) = true from fun j hj => by
                by_cases e : j = k
                · rw [e, ← Hy.out]; exact hby
                · exact Hay.out j (by omega))
              have Hsum := Lib.hid (show (s + x * y % 55441) % 55441 = (s + x * y) % 55441 by omega)
              go_wp2_with (go_at_call 19; refine (isNumber_any _ _).mono ?_; rintro e w' ⟨rfl, rfl⟩)
              go_quiet ((first | (go_at_call 24; exact Calls.quiet_of_same (times_any _ _ _ x1.1 x1.2 y1.1 y1.2)) | (go_at_call 23; exact Calls.quiet_of_same (plus_any _ _ _ d0 d1 (Int.emod_nonneg _ (by decide)) (Int.emod_lt_of_pos _ (by decide))))))
              go_wp2_with fail
              exact ⟨⟨k + 1, by omega, by go_num, by rw [Hd.out, Hsum.out], below_draws Hbl.out _, Hnx.out, Hny.out⟩, by simp [intOf]; omega⟩
        · obtain rfl : k = n := by omega
          have Hbl := Lib.hid hbl
          have H := Lib.hid (dot_good Hl.out (ys := ys) (by unfold dotOk; exact ⟨by rw [Hl.out, Hm.out], by rw [Hl.out]; exact h64, all_of Hl.out Hax.out, all_of Hm.out Hay.out⟩))
          clear hbl
          go_wp2_with fail
          go_ret2
          exact ⟨ret_pair H.out.1 H.out.2, Hbl.out⟩
theorem implDot_any (a b : Option Addr) (n m c d : Nat) (xs ys : List Int) (w : World) (ha : RdI w a n xs) (hb : RdI w b m ys) (hn : n ≤ 1048576) (hm : m ≤ 1048576) :
    Calls Try.prog 12 #[.slice a n c, .slice b m d] w fun e w' => e = .returned (.tuple #[.int .i64 (fDot xs ys), .int .i64 (cDot xs ys)]) ∧ Below w.heap.size w w' := by
  have hl := ha.len
  have hl' := hb.len
  by_cases hnm : n = m
  · subst hnm
    by_cases h64 : 64 < n
    · have H := Lib.hid (dot_bad (xs := xs) (ys := ys) (by unfold dotOk; omega))
      have hq : ((n : Int) != (n : Int)) = false := by simp
      clear hl hl' ha hb
      go_enter Try.func12, Try.ntmps12
      go_wp2_with fail
      go_ret2
      exact ⟨ret_pair H.out.1 H.out.2, Below.refl _ _⟩
    · exact implDot_eq a b n c d xs ys w ha hb (by omega)
  · have H := Lib.hid (dot_bad (xs := xs) (ys := ys) (by unfold dotOk; omega))
    have hq : ((n : Int) != (m : Int)) = true := by simp; omega
    clear hl hl' hnm ha hb
    go_enter Try.func12, Try.ntmps12
    go_wp2_with fail
    go_ret2
    exact ⟨ret_pair H.out.1 H.out.2, Below.refl _ _⟩
end Go.Proofs.Ytjmkmcabpjmkgab
