/- Families of rings (the specification's): rings of spins. -/
import Derived.Test.YtfiilhoojoaflaaFmA
import Derived.Lib.MinMax
namespace Go.Proofs.Ytfiilhoojoaflaa
open Go.RowKit
set_option linter.unusedSimpArgs false
set_option linter.unusedVariables false
def spL (st i j : Nat) : Nat := if i * st ≤ j * st then j * st - i * st else i * st - j * st
def spH (lev st i j : Nat) : Nat := if i * st + j * st ≤ lev then i * st + j * st else 2 * lev - i * st - j * st
open Classical in
noncomputable def spT (st i j t k : Nat) : Int := if ∃ u, u < t ∧ k = (spL st i j + 2 * u) / st then 1 else 0
open Classical in
noncomputable def spinF (lev st i j k : Nat) : Int := if ∃ u, spL st i j + 2 * u ≤ spH lev st i j ∧ k = (spL st i j + 2 * u) / st then 1 else 0
noncomputable def spinP (lev st i j t : Nat) (a b k : Nat) : Int := if a < i ∨ (a = i ∧ b < j) then spinF lev st a b k else if a = i ∧ b = j then spT st i j t k else 0
theorem spT_zero (st i j k : Nat) : spT st i j 0 k = 0 := by
  unfold spT; rw [if_neg (by rintro ⟨u, h, _⟩; omega)]
theorem spinP_set {lev st i j t x : Nat} (hx : x = (spL st i j + 2 * t) / st) (a b k : Nat) : (if a = i ∧ b = j ∧ k = x then (1 : Int) else spinP lev st i j t a b k) = spinP lev st i j (t + 1) a b k := by
  unfold spinP
  by_cases h1 : a < i ∨ (a = i ∧ b < j)
  · rw [if_neg (show ¬ (a = i ∧ b = j ∧ k = x) by omega), if_pos h1, if_pos h1]
  · rw [if_neg h1, if_neg h1]
    by_cases h2 : a = i ∧ b = j
    · rw [if_pos h2, if_pos h2]
      unfold spT
      by_cases h3 : k = x
      · rw [if_pos ⟨h2.1, h2.2, h3⟩, if_pos ⟨t, by omega, by rw [h3, hx]⟩]
      · rw [if_neg (fun e => h3 e.2.2)]
        by_cases h4 : ∃ u, u < t ∧ k = (spL st i j + 2 * u) / st
        · rw [if_pos h4]
          obtain ⟨u, h5, h6⟩ := h4
          rw [if_pos ⟨u, by omega, h6⟩]
        · rw [if_neg h4, if_neg]
          rintro ⟨u, h5, h6⟩
          by_cases e : u = t
          · exact h3 (by rw [h6, e, hx])
          · exact h4 ⟨u, by omega, h6⟩
    · rw [if_neg (fun e => h2 ⟨e.1, e.2.1⟩), if_neg h2, if_neg h2]
theorem spinP_next {lev st i j t : Nat} (hin : ∀ u, u < t → spL st i j + 2 * u ≤ spH lev st i j) (hout : spH lev st i j < spL st i j + 2 * t) (a b k : Nat) : spinP lev st i j t a b k = spinP lev st i (j + 1) 0 a b k := by
  unfold spinP
  by_cases h1 : a < i ∨ (a = i ∧ b < j)
  · rw [if_pos h1, if_pos (show a < i ∨ (a = i ∧ b < j + 1) by omega)]
  · rw [if_neg h1]
    by_cases h2 : a = i ∧ b = j
    · rw [if_pos h2, if_pos (show a < i ∨ (a = i ∧ b < j + 1) by omega)]
      obtain ⟨rfl, rfl⟩ := h2
      unfold spT spinF
      by_cases h4 : ∃ u, u < t ∧ k = (spL st a b + 2 * u) / st
      · rw [if_pos h4]
        obtain ⟨u, h5, h6⟩ := h4
        rw [if_pos ⟨u, hin u h5, h6⟩]
      · rw [if_neg h4, if_neg]
        rintro ⟨u, h5, h6⟩
        exact h4 ⟨u, by omega, h6⟩
    · rw [if_neg h2, if_neg (show ¬ (a < i ∨ (a = i ∧ b < j + 1)) by omega), spT_zero, ite_self]
theorem spinP_row {lev st i n : Nat} (a b k : Nat) (hb : b < n) : spinP lev st i n 0 a b k = spinP lev st (i + 1) 0 0 a b k := by
  unfold spinP
  rw [spT_zero, spT_zero, ite_self, ite_self]
  by_cases h : a < i ∨ (a = i ∧ b < n)
  · rw [if_pos h, if_pos (show a < i + 1 ∨ (a = i + 1 ∧ b < 0) by omega)]
  · rw [if_neg h, if_neg (show ¬ (a < i + 1 ∨ (a = i + 1 ∧ b < 0)) by omega)]
set_option maxHeartbeats 4000000 in
theorem l06Spin_f (lev st : Nat) (n : Nat) (w : World) (hst : st = 1 ∨ st = 2) (hn : n = lev / st + 1) (hl : lev ≤ 100) :
    Calls Try.prog 59 #[.int .i64 lev, .int .i64 st] w fun e w' => ∃ g cg, e = .returned (.slice (some ⟨g, 0, none⟩) n cg) ∧ CubO w' w.heap.size w'.heap.size g n (fun _ => n) (fun _ _ => n) (spinF lev st) ∧ Below w.heap.size w w' := by
  have hn1 : n ≤ 101 := by have := Nat.div_le_self lev st; omega
  have HE := Lib.hid (l06Empty_f n w (by omega))
  have hd : (lev : Int).tdiv (st : Int) = ((n - 1 : Nat) : Int) := by
    rw [Int.tdiv_eq_ediv_of_nonneg (by omega), ← Int.natCast_ediv, hn]; rfl
  have hw1 : IntKind.i64.wrap ((n - 1 : Nat) : Int) = ((n - 1 : Nat) : Int) := IntWalk.i64_in _ (by omega)
  have hw2 : IntKind.i64.wrap (((n - 1 : Nat) : Int) + 1) = (n : Int) := by
    have : 0 < n := by rw [hn]; exact Nat.succ_pos _
    rw [IntWalk.i64_in _ (by omega)]; omega
  have hz : ((st : Int) == 0) = false := by simp; omega
  have HN := Lib.hid (show ∀ i, i < n → i * st ≤ lev from fun i hi => by
    have h1 : i ≤ lev / st := by omega
    exact Nat.le_trans (Nat.mul_le_mul_right st h1) (Nat.div_mul_le_self lev st))
  have HD := Lib.hid (show ∀ c, c ≤ lev → c / st < n from fun c hc => by
    have := Nat.div_le_div_right (c := st) hc; omega)
  clear hn
  go_enter Try.func59, Try.ntmps59
  go_wp2_with fail
  refine HE.out.mono ?_
  rintro e w1 ⟨g, cg, rfl, ⟨C3, B3, CC3, G3, hc⟩, hb3⟩
  obtain ⟨hi, hhi⟩ : ∃ x, x = w1.heap.size := ⟨_, rfl⟩
  rw [← hhi] at hc
  have HHi := Lib.hid hhi
  have HC := Lib.hid hc
  have HBw := Lib.hid hb3
  clear hc hb3 hhi HE hd hw1 hw2
  go_wp2_with fail
  go_loopw [7] (fun x wr => ∃ i : Nat, i ≤ n ∧ x = .int .i64 i ∧ CubB wr w.heap.size hi g n (fun _ => n) (fun _ _ => n) C3 B3 CC3 G3 (spinP lev st i 0 0) ∧ Below w.heap.size w wr ∧ hi ≤ wr.heap.size) (fun x _ => n - (intOf x).toNat)
  case atStart => exact ⟨0, by omega, rfl, HC.out.cong (fun _ _ _ _ _ _ => by unfold spinP; rw [if_neg (by omega), spT_zero, ite_self]), HBw.out, by rw [HHi.out]; exact Nat.le_refl _⟩
  case round =>
    clear HC HBw
    obtain ⟨i, hi1, rfl, hc, hb, hh⟩ := hrel
    have HC := Lib.hid hc
    have HBw := Lib.hid hb
    have HH := Lib.hid hh
    clear hc hb hh
    by_cases hin : i < n
    · obtain ⟨wo, hwo⟩ : ∃ x, x = wr := ⟨_, rfl⟩
      subst hwo
      go_wp2_with fail
      go_loopw [8] (fun x wr => ∃ j : Nat, j ≤ n ∧ x = .int .i64 j ∧ CubB wr w.heap.size hi g n (fun _ => n) (fun _ _ => n) C3 B3 CC3 G3 (spinP lev st i j 0) ∧ Below w.heap.size w wr ∧ hi ≤ wr.heap.size) (fun x _ => n - (intOf x).toNat)
      case atStart => exact ⟨0, by omega, rfl, HC.out, HBw.out, HH.out⟩
      case round =>
        clear HC HBw HH
        obtain ⟨j, hj1, rfl, hc, hb, hh⟩ := hrel
        have HC := Lib.hid hc
        have HBw := Lib.hid hb
        have HH := Lib.hid hh
        clear hc hb hh
        by_cases hjn : j < n
        · obtain ⟨wm, hwm⟩ : ∃ x, x = wr := ⟨_, rfl⟩
          subst hwm
          have hA := HN.out i hin
          have hB := HN.out j hjn
          have HLo := Lib.hid (show spL st i j = if i * st ≤ j * st then j * st - i * st else i * st - j * st from rfl)
          have HHv := Lib.hid (show spH lev st i j = if i * st + j * st ≤ lev then i * st + j * st else 2 * lev - i * st - j * st from rfl)
          obtain ⟨lo, hlo⟩ : ∃ x, x = spL st i j := ⟨_, rfl⟩
          obtain ⟨hv, hhv⟩ : ∃ x, x = spH lev st i j := ⟨_, rfl⟩
          rw [← hlo] at HLo
          rw [← hhv] at HHv
          have HLe := Lib.hid hlo
          have HHe := Lib.hid hhv
          clear hlo hhv
          have m1 : IntKind.i64.wrap ((i : Int) * (st : Int)) = ((i * st : Nat) : Int) := by rw [← Int.natCast_mul]; exact IntWalk.i64_in _ (by omega)
          have m2 : IntKind.i64.wrap ((j : Int) * (st : Int)) = ((j * st : Nat) : Int) := by rw [← Int.natCast_mul]; exact IntWalk.i64_in _ (by omega)
          obtain ⟨A, hAe⟩ : ∃ x, x = i * st := ⟨_, rfl⟩
          obtain ⟨B, hBe⟩ : ∃ x, x = j * st := ⟨_, rfl⟩
          rw [← hAe] at m1 hA HLo HHv
          rw [← hBe] at m2 hB HLo HHv
          clear hAe hBe
          have p1 : IntKind.i64.wrap ((A : Int) - (B : Int)) = (A : Int) - (B : Int) := IntWalk.i64_in _ (by omega)
          have p2 : IntKind.i64.wrap ((B : Int) - (A : Int)) = (B : Int) - (A : Int) := IntWalk.i64_in _ (by omega)
          have p3 : max ((A : Int) - (B : Int)) ((B : Int) - (A : Int)) = (lo : Int) := by
            have := HLo.out
            rw [Int.max_def]
            split at this <;> split <;> omega
          have p4 : IntKind.i64.wrap ((A : Int) + (B : Int)) = (A : Int) + (B : Int) := IntWalk.i64_in _ (by omega)
          have p5 : IntKind.i64.wrap (2 * (lev : Int)) = 2 * (lev : Int) := IntWalk.i64_in _ (by omega)
          have p6 : IntKind.i64.wrap (2 * (lev : Int) - (A : Int)) = 2 * (lev : Int) - (A : Int) := IntWalk.i64_in _ (by omega)
          have p7 : IntKind.i64.wrap (2 * (lev : Int) - (A : Int) - (B : Int)) = 2 * (lev : Int) - (A : Int) - (B : Int) := IntWalk.i64_in _ (by omega)
          have hvl : hv ≤ lev := by have := HHv.out; split at this <;> omega
          have p8 : min ((A : Int) + (B : Int)) (2 * (lev : Int) - (A : Int) - (B : Int)) = (hv : Int) := by
            have := HHv.out
            rw [Int.min_def]
            split at this <;> split <;> omega
          go_wp2_with fail
          go_loopw [11] (fun x wr => ∃ t : Nat, x = .int .i64 ((lo + 2 * t : Nat) : Int) ∧ (∀ u, u < t → lo + 2 * u ≤ hv) ∧ lo + 2 * t ≤ hv + 2 + lo ∧ CubB wr w.heap.size hi g n (fun _ => n) (fun _ _ => n) C3 B3 CC3 G3 (spinP lev st i j t) ∧ Below w.heap.size w wr ∧ hi ≤ wr.heap.size) (fun x _ => hv + 2 - (intOf x).toNat)
          case atStart => exact ⟨0, rfl, fun u hu => absurd hu (by omega), by omega, HC.out, HBw.out, HH.out⟩
          case round =>
            clear HC HBw HH
            obtain ⟨t, rfl, hall, htb, hc, hb, hh⟩ := hrel
            have HC := Lib.hid hc
            have HBw := Lib.hid hb
            have HH := Lib.hid hh
            have HAll := Lib.hid hall
            clear hc hb hh hall
            have HCt := Lib.hid (show lo + 2 * t = lo + 2 * t from rfl)
            obtain ⟨c, hce⟩ : ∃ c, c = lo + 2 * t := ⟨_, rfl⟩
            rw [← hce]
            have HCe := Lib.hid hce
            clear HCt
            by_cases hle : c ≤ hv
            · have hx := HD.out c (by omega)
              have q1 : (c : Int).tdiv (st : Int) = ((c / st : Nat) : Int) := by rw [Int.tdiv_eq_ediv_of_nonneg (by omega), ← Int.natCast_ediv]
              have HXe := Lib.hid (show c / st = (spL st i j + 2 * t) / st by rw [HCe.out, HLe.out])
              obtain ⟨x, hxe⟩ : ∃ x, x = c / st := ⟨_, rfl⟩
              rw [← hxe] at hx q1 HXe
              have q2 : IntKind.i64.wrap (x : Int) = (x : Int) := IntWalk.i64_in _ (by omega)
              clear hxe hce
              have m1' := RowB.cell HC.out.outer (show i < n by omega)
              have m2' := RowB.cell (HC.out.row i (by omega)).2.2.2.1.outer (show j < n by omega)
              have m3' := RowB.cell ((HC.out.row i (by omega)).2.2.2.1.row j (show j < n by omega)).2.2.2 hx
              have m4' := RowB.frozen ((HC.out.row i (by omega)).2.2.2.1.row j (show j < n by omega)).2.2.2 x
              have HG := Lib.hid ((HC.out.row i (by omega)).2.2.2.1.row j (show j < n by omega)).1
              have HS := Lib.hid ((HC.out.set (i := i) (j := j) (k := x) (by omega) (by omega) 1).cong (fun a _ b _ k _ => spinP_set HXe.out a b k))
              have HB5 := Lib.hid (HBw.out.setCell (p := ⟨G3 i j, x, none⟩) HG.out (.int .i64 1))
              have HAll2 := Lib.hid (show ∀ u, u < t + 1 → lo + 2 * u ≤ hv from fun u hu => by
                by_cases e : u = t
                · rw [e, ← HCe.out]; exact hle
                · exact HAll.out u (by omega))
              have r1 : ((c : Int) + 2) = ((lo + 2 * (t + 1) : Nat) : Int) := by rw [HCe.out]; omega
              have r2 : IntKind.i64.wrap ((c : Int) + 2) = ((lo + 2 * (t + 1) : Nat) : Int) := by rw [← r1]; exact IntWalk.i64_in _ (by omega)
              have HMe := Lib.hid (show hv + 2 - (lo + 2 * (t + 1)) < hv + 2 - c by rw [HCe.out] at hle ⊢; omega)
              have HTb := Lib.hid (show lo + 2 * (t + 1) ≤ hv + 2 + lo by rw [HCe.out] at hle; omega)
              clear r1 htb
              go_wp2_with fail
              go_region
              go_wp2_with fail
              exact ⟨⟨t + 1, rfl, HAll2.out, HTb.out, HS.out.below (Below.refl _ _).drew (Nat.le_refl _), HB5.out.drew, by have := HH.out; simp; omega⟩, by have := HMe.out; simp [intOf]; omega⟩
            · have HNx := Lib.hid (HC.out.cong (fun a _ b _ k _ => spinP_next (lev := lev) (st := st) (i := i) (j := j) (t := t) (fun u hu => by rw [← HLe.out, ← HHe.out]; exact HAll.out u hu) (by rw [← HLe.out, ← HHe.out, ← hce]; omega) a b k))
              clear hce htb
              go_wp2_with fail
              exact ⟨⟨j + 1, by omega, by go_num, HNx.out, HBw.out, HH.out⟩, by simp [intOf]; omega⟩
        · obtain rfl : j = n := by omega
          have HC2 := Lib.hid (HC.out.cong (fun a _ b hb k _ => spinP_row a b k hb))
          go_wp2_with fail
          exact ⟨⟨i + 1, by omega, by go_num, HC2.out, HBw.out, HH.out⟩, by simp [intOf]; omega⟩
    · obtain rfl : i = n := by omega
      go_wp2_with fail
      go_ret
      have HF := HC.out.cong (g := spinF lev st) (fun a ha b _ k _ => by
        unfold spinP
        rw [if_pos (Or.inl ha)])
      exact ⟨g, cg, rfl, CubO.mono ⟨C3, B3, CC3, G3, HF⟩ (Nat.le_refl _) HH.out, HBw.out⟩
end Go.Proofs.Ytfiilhoojoaflaa
