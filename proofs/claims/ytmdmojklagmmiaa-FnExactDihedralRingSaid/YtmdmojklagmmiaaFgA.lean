/- Families of rings (the program's): orders, the number of elements, the group's products; codes of arguments of groups. -/
import Derived.Test.YtmdmojklagmmiaaFpB
import Derived.Test.YtmdmojklagmmiaaPls
import Derived.Test.YtmdmojklagmmiaaRgA
import Derived.Lib.MinMax
namespace Go.Proofs.Ytmdmojklagmmiaa
open Go.RowKit
set_option linter.unusedSimpArgs false
set_option linter.unusedVariables false
theorem groupOf_f (a : Option Addr) (n c : Nat) (w : World) : Calls Try.prog 192 #[.slice a n c] w fun e w' => e = .returned (.agg #[.slice a n c]) ∧ Below w.heap.size w w' := by
  go_enter Try.func192, Try.ntmps192
  go_wp2_with fail
  refine bodyPost_ret (v := .agg #[.slice a n c]) (by simp [results, Try.results192, go_sem]) rfl ?_
  exact ⟨rfl, by go_grown⟩
/-- an order that is none -/
def badO (o : Nat → Int) (k : Nat) : Bool := decide (o k < 1)
theorem bad_none {n : Nat} {o : Nat → Int} (h : ∀ i, i < n → 1 ≤ o i) : idx (badO o) n = -1 := idx_none fun i hi => by
  have := h i hi
  unfold badO; simp; omega
theorem bad_some {n i : Nat} {o : Nat → Int} (hi : i < n) (h : ¬ 1 ≤ o i) : 0 ≤ idx (badO o) n := by
  unfold idx
  by_cases e : ff (badO o) n < n
  · rw [if_pos e]; omega
  · exact absurd (ff_lt hi (show badO o i = true by unfold badO; simp; omega)) e
theorem orders1_f (x : Int) (w : World) : Calls Try.prog 130 #[.int .i64 x] w fun e w' => e = .returned (.bool (decide (x < 1))) ∧ w = w' := by
  go_enter Try.func130, Try.ntmps130
  go_wp2_with fail
  go_ret
  exact ⟨rfl, rfl⟩
theorem ordersIx_f (a : Option Addr) (n c : Nat) (o : Nat → Int) (w : World) (h : RdR w a n o) (hn : n ≤ 9000000000) :
    Calls Try.prog 145 #[.slice a n c, .func (.func 130) #[] #[]] w fun e w' => e = .returned (.int .i64 (idx (badO o) n)) ∧ w = w' := by
  have H := Lib.hid h
  clear h
  go_enter Try.func145, Try.ntmps145
  go_wp2_with fail
  go_loop [8] (fun i => ∃ k : Nat, k ≤ n ∧ i = .int .i64 k ∧ ∀ j, j < k → badO o j = false) (fun i => n - (intOf i).toNat)
  case atStart => exact ⟨0, by omega, rfl, fun j hj => absurd hj (by omega)⟩
  case round =>
    obtain ⟨k, hk, rfl, hall⟩ := hrel
    have HB := Lib.hid hall
    clear hall
    by_cases hlt : k < n
    · obtain ⟨bl, off, rfl, hb, hc⟩ := H.out.resolve_left (by omega)
      have hcs := hc k hlt
      clear hc
      have HX := Lib.hid (orders1_f (o k) w)
      cases ho : badO o k
      · have HF := Lib.hid (show ∀ j, j < k + 1 → badO o j = false from fun j hj => by
          by_cases e : j = k
          · rw [e]; exact ho
          · exact HB.out j (by omega))
        rw [show decide (o k < 1) = false from ho] at HX
        clear ho
        generalize o k = x at *
        go_wp2_with (go_at_call 130; refine HX.out.mono ?_; rintro e w' ⟨rfl, rfl⟩)
        go_round
        case rel => exact ⟨k + 1, by omega, by go_num, HF.out⟩
        case measure => simp [intOf]; omega
      · have HF := Lib.hid (idx_hit hlt ho HB.out)
        rw [show decide (o k < 1) = true from ho] at HX
        clear ho
        generalize o k = x at *
        go_wp2_with (go_at_call 130; refine HX.out.mono ?_; rintro e w' ⟨rfl, rfl⟩)
        go_ret
        exact ⟨by rw [HF.out] <;> rfl, rfl⟩
    · obtain rfl : k = n := by omega
      have HF := Lib.hid (idx_none HB.out)
      go_wp2_with fail
      go_ret
      exact ⟨by rw [HF.out] <;> rfl, rfl⟩
theorem ordersCt_f (a : Option Addr) (n c : Nat) (o : Nat → Int) (w : World) (h : RdR w a n o) (hn : n ≤ 9000000000) :
    Calls Try.prog 122 #[.slice a n c, .func (.func 130) #[] #[]] w fun e w' => e = .returned (.bool (decide (0 ≤ idx (badO o) n))) ∧ w = w' := by
  have HI := Lib.hid (ordersIx_f a n c o w h hn)
  clear h
  generalize idx (badO o) n = x at *
  go_enter Try.func122, Try.ntmps122
  go_wp2_with fail
  refine HI.out.mono ?_
  rintro e w' ⟨rfl, rfl⟩
  go_wp2_with fail
  go_ret
  exact ⟨rfl, rfl⟩
theorem hasOrders_f (a : Option Addr) (n c : Nat) (o : Nat → Int) (w : World) (h : RdR w a n o) (hn : n ≤ 9000000000) :
    Calls Try.prog 103 #[.agg #[.slice a n c]] w fun e w' => e = .returned (.bool (ordB n o)) ∧ Below w.heap.size w w' := by
  have HC := Lib.hid (fun u (hu : Below w.heap.size w u) => ordersCt_f a n c o u (h.below hu (Nat.le_refl _)) hn)
  have HB0 := Lib.hid (below_alloc w (.cells #[.slice a n c] 114))
  clear h
  by_cases h0 : n = 0
  · subst h0
    have HF := Lib.hid (ordB_zero (o := o))
    go_enter Try.func103, Try.ntmps103
    go_wp2_with fail
    go_ret
    exact ⟨ret_bool HF.out.symm, below_alloc _ _⟩
  · have hd : decide (0 < (n : Int)) = true := by simp; omega
    have HD := Lib.hid (show (!decide (0 ≤ idx (badO o) n)) = ordB n o by
      cases hb : ordB n o
      · have : ∃ i, i < n ∧ ¬ 1 ≤ o i := Classical.byContradiction fun hc => by
          have : ordB n o = true := ordB_mk (by omega) (fun i hi => Classical.byContradiction fun hx => hc ⟨i, hi, hx⟩)
          rw [hb] at this; cases this
        obtain ⟨i, hi, hx⟩ := this
        have := bad_some hi hx
        simp; omega
      · rw [bad_none (ordB_t hb).2]; rfl)
    generalize decide (0 ≤ idx (badO o) n) = b at *
    go_enter Try.func103, Try.ntmps103
    go_wp2_with fail
    refine (HC.out _ HB0.out).mono ?_
    rintro e w' ⟨rfl, rfl⟩
    go_wp2_with fail
    go_ret
    exact ⟨by rw [← HD.out] <;> rfl, HB0.out⟩
set_option maxHeartbeats 1000000 in
theorem group_rank (a : Option Addr) (n c : Nat) (o : Nat → Int) (w : World) (h : RdR w a n o) (ho : ∀ i, i < n → 1 ≤ o i) (hn : n ≤ 9000000000) :
    Calls Try.prog 191 #[.agg #[.slice a n c]] w fun e w' => e = .returned (.int .i64 (gN n o : Nat)) ∧ Below w.heap.size w w' := by
  have H := Lib.hid (fun u (hu : Below w.heap.size w u) => h.below hu (Nat.le_refl _))
  have HO := Lib.hid ho
  have HI := Lib.hid (rkO_eq ho)
  have HE := Lib.hid (gN_eq ho).2.1
  have HB0 := Lib.hid (below_alloc w (.cells #[.slice a n c] 114))
  clear h ho
  go_enter Try.func191, Try.ntmps191
  go_wp2_with fail
  go_loop [3, 9] (fun s i => ∃ q : Nat, q ≤ n ∧ i = .int .i64 q ∧ s = .int .i64 (rkO o q)) (fun _ i => n - (intOf i).toNat)
  case atStart => exact ⟨0, by omega, rfl, rfl⟩
  case round =>
    obtain ⟨q, hq, rfl, rfl⟩ := hrel
    by_cases hqn : q < n
    · obtain ⟨b, off, rfl, hb, hc⟩ := (H.out _ HB0.out).open (by omega)
      have e1 := hc q hqn
      have h1 := HO.out q hqn
      obtain ⟨r1, r2, _⟩ := HI.out q hq
      have HS := Lib.hid (show rkO o (q + 1) = min (rkO o q * min (o q) 17) 17 from rfl)
      clear hc
      obtain ⟨p, hp⟩ : ∃ p, p = rkO o q := ⟨_, rfl⟩
      rw [← hp] at HS r1 r2 ⊢
      clear hp
      obtain ⟨x, hx⟩ : ∃ x, x = o q := ⟨_, rfl⟩
      rw [← hx] at e1 HS h1
      clear hx
      have m1 : 1 ≤ min x 17 := by omega
      have m2 : min x 17 ≤ 17 := by omega
      obtain ⟨m, hm⟩ : ∃ m, m = min x 17 := ⟨_, rfl⟩
      rw [← hm] at HS m1 m2
      have hm' : min x 17 = m := hm.symm
      clear hm
      have hm0 : 0 ≤ p * m := Int.mul_nonneg (by omega) (by omega)
      have hm1 : p * m ≤ 17 * 17 := Int.mul_le_mul (by omega) (by omega) (by omega) (by omega)
      have hw : IntKind.i64.wrap (p * m) = p * m := IntWalk.i64_in _ (by omega)
      go_wp2_with fail
      exact ⟨⟨q + 1, by omega, by go_num, by rw [HS.out]⟩, by simp [intOf]; omega⟩
    · obtain rfl : q = n := by omega
      go_wp2_with fail
      go_ret
      exact ⟨by rw [HE.out] <;> rfl, HB0.out⟩
end Go.Proofs.Ytmdmojklagmmiaa
