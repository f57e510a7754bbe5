/- Orders of numbers: the model's loops. -/
import Derived.Test.YtjmkmcabpjmkgaaDoorNumB
import Derived.BigQuiet
namespace Go.Proofs.YtjmkmcabpjmkgaaDoor
open Go.RowKit
/-- what is known at the heads of the loops of l01Order: which primes are done -/
structure OrdAt (a : Nat) (i : Nat) (o : Nat) : Prop where
  dvd : o ∣ 55440
  one : a ^ o % 55441 = 1
  f2 : 1 ≤ i → NT.Fine a o 2
  f3 : 2 ≤ i → NT.Fine a o 3
  f5 : 3 ≤ i → NT.Fine a o 5
  f7 : 4 ≤ i → NT.Fine a o 7
  f11 : 5 ≤ i → NT.Fine a o 11
/-- the prime at a place -/
def primeAt (i : Nat) : Nat := if i = 0 then 2 else if i = 1 then 3 else if i = 2 then 5 else if i = 3 then 7 else 11
theorem primeAt_bd (i : Nat) : 2 ≤ primeAt i ∧ primeAt i ≤ 11 := by unfold primeAt; repeat' split
                                                                    all_goals omega
theorem ordAt_start (a : Nat) (h : a % 55441 ≠ 0) : OrdAt a 0 55440 :=
  ⟨Nat.dvd_refl _, NT.fermat a h, by omega, by omega, by omega, by omega, by omega⟩
theorem ordAt_pos {a i o : Nat} (h : OrdAt a i o) : 1 ≤ o ∧ o ≤ 55440 := by
  refine ⟨?_, Nat.le_of_dvd (by omega) h.dvd⟩
  rcases Nat.eq_zero_or_pos o with h0 | h0
  · have := h.dvd; rw [h0] at this; have := Nat.eq_zero_of_zero_dvd this; omega
  · exact h0
theorem ordAt_div {a i o p : Nat} (h : OrdAt a i o) (hp : 0 < p) (hd : o % p = 0) (h1 : a ^ (o / p) % 55441 = 1) : OrdAt a i (o / p) := by
  have hdv : o / p ∣ o := Nat.div_dvd_of_dvd (Nat.dvd_of_mod_eq_zero hd)
  exact ⟨Nat.dvd_trans hdv h.dvd, h1, fun g => NT.fine_of_div a o p 2 hd hp (h.f2 g), fun g => NT.fine_of_div a o p 3 hd hp (h.f3 g), fun g => NT.fine_of_div a o p 5 hd hp (h.f5 g), fun g => NT.fine_of_div a o p 7 hd hp (h.f7 g), fun g => NT.fine_of_div a o p 11 hd hp (h.f11 g)⟩
theorem ordAt_next {a i o : Nat} (h : OrdAt a i o) (hi : i < 5) (hf : NT.Fine a o (primeAt i)) : OrdAt a (i + 1) o := by
  unfold primeAt at hf
  have hi' : i = 0 ∨ i = 1 ∨ i = 2 ∨ i = 3 ∨ i = 4 := by omega
  rcases hi' with rfl | rfl | rfl | rfl | rfl <;> simp at hf <;>
    exact ⟨h.dvd, h.one, by first | (intro _; exact hf) | exact fun _ => h.f2 (by omega), by first | (intro _; exact hf) | exact fun _ => h.f3 (by omega) | omega, by first | (intro _; exact hf) | exact fun _ => h.f5 (by omega) | omega, by first | (intro _; exact hf) | exact fun _ => h.f7 (by omega) | omega, by first | (intro _; exact hf) | exact fun _ => h.f11 (by omega) | omega⟩
theorem ordAt_end {a o : Nat} (h : OrdAt a 5 o) : NT.IsOrder a o :=
  ⟨h.dvd, h.one, h.f2 (by omega), h.f3 (by omega), h.f5 (by omega), h.f7 (by omega), h.f11 (by omega)⟩
theorem primes_cell (w : World) (t : Nat) (j : Nat) (hj : j < 5) : (w.alloc (.cells #[.int .i64 2, .int .i64 3, .int .i64 5, .int .i64 7, .int .i64 11] t)).cell? ⟨w.heap.size, j, none⟩ = some (.int .i64 (primeAt j)) := by
  have hj' : j = 0 ∨ j = 1 ∨ j = 2 ∨ j = 3 ∨ j = 4 := by omega
  rcases hj' with rfl | rfl | rfl | rfl | rfl <;> simp [go_sem, primeAt]
theorem fine_int (a o p : Nat) : NT.Fine a o p ↔ ¬ ((o : Int) % (p : Int) = 0 ∧ pwI (a : Int) ((o : Int) / (p : Int)) = 1) := by
  unfold NT.Fine pwI
  have e1 : ((o : Int) / (p : Int)).toNat = o / p := by rw [← Int.natCast_ediv]; rfl
  rw [e1, Int.toNat_natCast]
  constructor <;> intro h g <;> apply h <;> refine ⟨by omega, by omega⟩
theorem l01Order_any (a : Int) (d : Nat) (w : World) (h0 : 0 < a) (h1 : a < 55441) (hd : NT.IsOrder a.toNat d) : Calls Tryd.prog 37 #[.int .i64 a] w fun e w' => e = .returned (.int .i64 d) ∧ Below w.heap.size w w' := by
  have Hd := Lib.hid hd
  clear hd
  have Hs := Lib.hid (ordAt_start a.toNat (by omega))
  go_enter Tryd.func37, Tryd.ntmps37
  go_wp2
  have hc := primes_cell w 2
  have hB : Below w.heap.size w (w.alloc (.cells #[.int .i64 2, .int .i64 3, .int .i64 5, .int .i64 7, .int .i64 11] 2)) := (Below.refl _ _).alloc (Nat.le_refl _) _
  generalize w.alloc (.cells #[.int .i64 2, .int .i64 3, .int .i64 5, .int .i64 7, .int .i64 11] 2) = wo at *
  have HC := Lib.hid hc
  have HB := Lib.hid hB
  clear hc hB
  go_loop [3, 5] (fun o i => ∃ on k : Nat, k ≤ 5 ∧ on ≤ 55440 ∧ o = .int .i64 on ∧ i = .int .i64 k ∧ OrdAt a.toNat k on) (fun _ i => 5 - (intOf i).toNat)
  case atStart => exact ⟨55440, 0, by omega, by omega, rfl, rfl, Hs.out⟩
  case round =>
    obtain ⟨on, k, hk, ho, rfl, rfl, hr⟩ := hrel
    have Hr := Lib.hid hr
    clear hr
    by_cases hlt : k < 5
    · have hcell := HC.out k hlt
      obtain ⟨p, hp⟩ : ∃ p : Nat, p = primeAt k := ⟨_, rfl⟩
      have hpb := primeAt_bd k
      rw [← hp] at hcell hpb
      have Hp := Lib.hid hp
      clear hp
      obtain ⟨hp1, hp2⟩ := hpb
      go_wp2
      go_loop [3] (fun o => ∃ on : Nat, on ≤ 55440 ∧ o = .int .i64 on ∧ OrdAt a.toNat k on) (fun o => (intOf o).toNat)
      case atStart => exact ⟨on, ho, rfl, Hr.out⟩
      case round =>
        obtain ⟨om, hom, rfl, hr'⟩ := hrel
        have hpos := (ordAt_pos hr').1
        have hq0 : 0 ≤ (om : Int) / (p : Int) := Int.ediv_nonneg (by omega) (by omega)
        have hq1 : (om : Int) / (p : Int) ≤ 55440 := Int.le_trans (Int.ediv_le_self _ (by omega)) (by omega)
        have Hf := Lib.hid (fine_int a.toNat om p)
        have ea : ((a.toNat : Nat) : Int) = a := by omega
        rw [ea] at Hf
        clear ea
        by_cases hdv : (om : Int) % (p : Int) = 0
        · have hdv' : ((om : Int) % (p : Int) == 0) = true := by simp [hdv]
          by_cases hpw : pwI a ((om : Int) / (p : Int)) = 1
          · have hn : OrdAt a.toNat k (om / p) := ordAt_div hr' (by omega) (by omega) (by
              have := hpw; unfold pwI at this
              have e1 : ((om : Int) / (p : Int)).toNat = om / p := by rw [← Int.natCast_ediv]; rfl
              rw [e1] at this; omega)
            have hlt2 : om / p < om := Nat.div_lt_self (by omega) (by omega)
            have en : ((om / p : Nat) : Int) = (om : Int) / (p : Int) := Int.natCast_ediv _ _
            have Hn := Lib.hid hn
            have En := Lib.hid en
            have hpw' : (pwI a ((om : Int) / (p : Int)) == 1) = true := by simp [hpw]
            have Hlt := Lib.hid hlt2
            clear hpw hdv hn en hr' Hf hlt2
            go_wp2_with (go_at_call 60; refine (l01Pow_any _ _ _ (by omega) (by omega) (by omega) (by omega)).mono ?_; rintro e w' ⟨rfl, rfl⟩)
            go_round
            case rel => exact ⟨om / p, by have := Hlt.out; omega, by rw [En.out], Hn.out⟩
            case measure => have h1 := Hlt.out; have h2 := En.out; simp [intOf]; omega
          · have hn : OrdAt a.toNat (k + 1) om := ordAt_next hr' hlt (by rw [← Hp.out]; exact Hf.out.2 (fun h => hpw h.2))
            have Hn := Lib.hid hn
            have hpw' : (pwI a ((om : Int) / (p : Int)) == 1) = false := by simp [hpw]
            clear hpw hdv hn hr' Hf
            go_wp2_with (go_at_call 60; refine (l01Pow_any _ _ _ (by omega) (by omega) (by omega) (by omega)).mono ?_; rintro e w' ⟨rfl, rfl⟩)
            go_round
            case rel => exact ⟨om, k + 1, by omega, by omega, rfl, by go_num, Hn.out⟩
            case measure => simp [intOf]; omega
        · have hn : OrdAt a.toNat (k + 1) om := ordAt_next hr' hlt (by rw [← Hp.out]; exact Hf.out.2 (fun h => hdv h.1))
          have Hn := Lib.hid hn
          have hdv' : ((om : Int) % (p : Int) == 0) = false := by simp [hdv]
          clear hdv hn hr' Hf
          go_wp2_with (go_at_call 60; refine (l01Pow_any _ _ _ (by omega) (by omega) (by omega) (by omega)).mono ?_; rintro e w' ⟨rfl, rfl⟩)
          go_round
          case rel => exact ⟨om, k + 1, by omega, by omega, rfl, by go_num, Hn.out⟩
          case measure => simp [intOf]; omega
    · obtain rfl : k = 5 := by omega
      go_wp2
      go_ret
      have := NT.order_unique (ordAt_end Hr.out) Hd.out
      exact ⟨ret_int (by omega), HB.out⟩
theorem l01Primitive_any (w : World) : Calls Tryd.prog 35 #[] w fun e w' => e = .returned (.int .i64 38) ∧ Below w.heap.size w w' := by
  go_enter Tryd.func35, Tryd.ntmps35
  go_wp2
  go_loopw [1] (fun r wr => ∃ k : Nat, 1 ≤ k ∧ k ≤ 38 ∧ r = .int .i64 k ∧ Below w.heap.size w wr) (fun r _ => 38 - (intOf r).toNat)
  case atStart => exact ⟨1, by omega, by omega, rfl, Below.refl _ _⟩
  case round =>
    obtain ⟨k, hk, hk', rfl, hB⟩ := hrel
    have HB := Lib.hid hB
    have hs := hB.size
    clear hB
    by_cases hlt : k < 38
    · obtain ⟨d, hd⟩ := NT.order_ex k (by omega)
      have hne : ((d : Int) != 55440) = true := by have := NT.not_prim k d (by omega) hlt hd; simp; omega
      have Hd := Lib.hid (show NT.IsOrder (k : Int).toNat d by rw [Int.toNat_natCast]; exact hd)
      clear hd
      go_wp2_with (go_at_call 37; refine (l01Order_any _ d _ (by omega) (by omega) Hd.out).mono ?_; rintro e w' ⟨rfl, hb⟩)
      go_roundw
      case rel => exact ⟨k + 1, by omega, by omega, by go_num, HB.out.trans (hb.mono hs)⟩
      case measure => simp [intOf]; omega
    · obtain rfl : k = 38 := by omega
      have Hd := Lib.hid (show NT.IsOrder (38 : Int).toNat 55440 from NT.prim_order)
      go_wp2_with (go_at_call 37; refine (l01Order_any _ 55440 _ (by omega) (by omega) Hd.out).mono ?_; rintro e w' ⟨rfl, hb⟩)
      go_ret
      exact ⟨rfl, HB.out.trans (hb.mono hs)⟩
theorem specPrim_any (w : World) : Calls Tryd.prog 13 #[] w fun e w' => e = .returned (.int .i64 38) ∧ Below w.heap.size w w' := by
  go_enter Tryd.func13, Tryd.ntmps13
  go_wp2_with (go_at_call 35; refine (l01Primitive_any _).mono ?_; rintro e w' ⟨rfl, hbP⟩)
  go_ret
  exact ⟨rfl, hbP⟩
theorem implPrim_any (w : World) : Calls Tryd.prog 12 #[] w fun e w' => e = .returned (.int .i64 38) ∧ w = w' := by
  go_enter Tryd.func12, Tryd.ntmps12
  go_wp2
  go_ret
  exact ⟨rfl, rfl⟩
end Go.Proofs.YtjmkmcabpjmkgaaDoor
