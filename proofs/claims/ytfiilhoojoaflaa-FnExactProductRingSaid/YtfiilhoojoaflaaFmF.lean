/- Families of rings (the specification's): products. -/
import Derived.Test.YtfiilhoojoaflaaFmA
import Derived.Test.YtfiilhoojoaflaaRgC
namespace Go.Proofs.Ytfiilhoojoaflaa
open Go.RowKit
set_option linter.unusedSimpArgs false
set_option linter.unusedVariables false
def prF (m : Nat) (fa fb : Nat → Nat → Nat → Int) (x y z : Nat) : Int := fa (x / m) (y / m) (z / m) * fb (x % m) (y % m) (z % m)
def prP (m : Nat) (fa fb : Nat → Nat → Nat → Int) (x y z : Nat) (a b c : Nat) : Int := if a < x ∨ (a = x ∧ b < y) ∨ (a = x ∧ b = y ∧ c < z) then prF m fa fb a b c else 0
theorem prP_set {m : Nat} {fa fb : Nat → Nat → Nat → Int} {x y z : Nat} {v : Int} (hv : v = prF m fa fb x y z) (a b c : Nat) : (if a = x ∧ b = y ∧ c = z then v else prP m fa fb x y z a b c) = prP m fa fb x y (z + 1) a b c := by
  unfold prP
  by_cases h : a = x ∧ b = y ∧ c = z
  · obtain ⟨rfl, rfl, rfl⟩ := h
    rw [if_pos ⟨rfl, rfl, rfl⟩, if_pos (Or.inr (Or.inr ⟨rfl, rfl, by omega⟩)), hv]
  · rw [if_neg h]
    by_cases h2 : a < x ∨ (a = x ∧ b < y) ∨ (a = x ∧ b = y ∧ c < z)
    · rw [if_pos h2, if_pos (show a < x ∨ (a = x ∧ b < y) ∨ (a = x ∧ b = y ∧ c < z + 1) by omega)]
    · rw [if_neg h2, if_neg (show ¬ (a < x ∨ (a = x ∧ b < y) ∨ (a = x ∧ b = y ∧ c < z + 1)) by omega)]
theorem prP_next {m N : Nat} {fa fb : Nat → Nat → Nat → Int} {x y : Nat} (a b c : Nat) (hc : c < N) : prP m fa fb x y N a b c = prP m fa fb x (y + 1) 0 a b c := by
  unfold prP
  by_cases h2 : a < x ∨ (a = x ∧ b < y) ∨ (a = x ∧ b = y ∧ c < N)
  · rw [if_pos h2, if_pos (show a < x ∨ (a = x ∧ b < y + 1) ∨ (a = x ∧ b = y + 1 ∧ c < 0) by omega)]
  · rw [if_neg h2, if_neg (show ¬ (a < x ∨ (a = x ∧ b < y + 1) ∨ (a = x ∧ b = y + 1 ∧ c < 0)) by omega)]
theorem prP_row {m N : Nat} {fa fb : Nat → Nat → Nat → Int} {x : Nat} (a b c : Nat) (hb : b < N) : prP m fa fb x N 0 a b c = prP m fa fb (x + 1) 0 0 a b c := by
  unfold prP
  by_cases h2 : a < x ∨ (a = x ∧ b < N) ∨ (a = x ∧ b = N ∧ c < 0)
  · rw [if_pos h2, if_pos (show a < x + 1 ∨ (a = x + 1 ∧ b < 0) ∨ (a = x + 1 ∧ b = 0 ∧ c < 0) by omega)]
  · rw [if_neg h2, if_neg (show ¬ (a < x + 1 ∨ (a = x + 1 ∧ b < 0) ∨ (a = x + 1 ∧ b = 0 ∧ c < 0)) by omega)]
set_option maxHeartbeats 4000000 in
theorem l06Product_f (ba oa n ca : Nat) (BA OA CA : Nat → Nat) (BA2 OA2 CA2 : Nat → Nat → Nat) (fa : Nat → Nat → Nat → Int) (bb ob m cb : Nat) (BB OB CB : Nat → Nat) (BB2 OB2 CB2 : Nat → Nat → Nat) (fb : Nat → Nat → Nat → Int) (w : World)
    (ha : CubeAt w ba oa n BA OA CA BA2 OA2 CA2 fa) (hb : CubeAt w bb ob m BB OB CB BB2 OB2 CB2 fb) (hm0 : 0 < m) (hnm : n * m ≤ 1000)
    (hfa : ∀ i j k, i < n → j < n → k < n → -1000000 ≤ fa i j k ∧ fa i j k ≤ 1000000) (hfb : ∀ i j k, i < m → j < m → k < m → -1000000 ≤ fb i j k ∧ fb i j k ≤ 1000000) :
    Calls Try.prog 60 #[.slice (some ⟨ba, oa, none⟩) n ca, .slice (some ⟨bb, ob, none⟩) m cb] w fun e w' => ∃ g cg, e = .returned (.slice (some ⟨g, 0, none⟩) (n * m : Nat) cg) ∧ CubO w' w.heap.size w'.heap.size g (n * m) (fun _ => n * m) (fun _ _ => n * m) (prF m fa fb) ∧ Below w.heap.size w w' := by
  have HA := Lib.hid (fun u (hu : Below w.heap.size w u) => ha.below hu)
  have HB := Lib.hid (fun u (hu : Below w.heap.size w u) => hb.below hu)
  have HFA := Lib.hid hfa
  have HFB := Lib.hid hfb
  have HE := Lib.hid (l06Empty_f (n * m) w (by omega))
  have hw1 : IntKind.i64.wrap ((n : Int) * (m : Int)) = ((n * m : Nat) : Int) := by rw [← Int.natCast_mul]; exact IntWalk.i64_in _ (by omega)
  have HQ := Lib.hid (show ∀ x, x < n * m → x / m < n ∧ x % m < m from fun x hx => ⟨(Nat.div_lt_iff_lt_mul hm0).2 hx, Nat.mod_lt _ hm0⟩)
  obtain ⟨N, hN⟩ : ∃ N, N = n * m := ⟨_, rfl⟩
  rw [← hN] at HE hw1 HQ hnm ⊢
  have hz : ((m : Int) == 0) = false := by simp; omega
  clear ha hb hfa hfb hN
  go_enter Try.func60, Try.ntmps60
  go_wp2_with fail
  refine HE.out.mono ?_
  rintro e w1 ⟨g, cg, rfl, ⟨C3, B3, CC3, G3, hc⟩, hb3⟩
  obtain ⟨hi, hhi⟩ : ∃ x, x = w1.heap.size := ⟨_, rfl⟩
  rw [← hhi] at hc
  have HHi := Lib.hid hhi
  have HC := Lib.hid hc
  have HBw := Lib.hid hb3
  clear hc hb3 hhi HE
  go_wp2_with fail
  go_loopw [8] (fun v wr => ∃ x : Nat, x ≤ N ∧ v = .int .i64 x ∧ CubB wr w.heap.size hi g N (fun _ => N) (fun _ _ => N) C3 B3 CC3 G3 (prP m fa fb x 0 0) ∧ Below w.heap.size w wr ∧ hi ≤ wr.heap.size) (fun v _ => N - (intOf v).toNat)
  case atStart => exact ⟨0, by omega, rfl, HC.out.cong (fun _ _ _ _ _ _ => by unfold prP; rw [if_neg (by omega)]), HBw.out, by rw [HHi.out]; exact Nat.le_refl _⟩
  case round =>
    clear HC HBw
    obtain ⟨x, hx1, rfl, hc, hb, hh⟩ := hrel
    have HC := Lib.hid hc
    have HBw := Lib.hid hb
    have HH := Lib.hid hh
    clear hc hb hh
    by_cases hxN : x < N
    · obtain ⟨wo, hwo⟩ : ∃ x, x = wr := ⟨_, rfl⟩
      subst hwo
      go_wp2_with fail
      go_loopw [9] (fun v wr => ∃ y : Nat, y ≤ N ∧ v = .int .i64 y ∧ CubB wr w.heap.size hi g N (fun _ => N) (fun _ _ => N) C3 B3 CC3 G3 (prP m fa fb x y 0) ∧ Below w.heap.size w wr ∧ hi ≤ wr.heap.size) (fun v _ => N - (intOf v).toNat)
      case atStart => exact ⟨0, by omega, rfl, HC.out, HBw.out, HH.out⟩
      case round =>
        clear HC HBw HH
        obtain ⟨y, hy1, rfl, hc, hb, hh⟩ := hrel
        have HC := Lib.hid hc
        have HBw := Lib.hid hb
        have HH := Lib.hid hh
        clear hc hb hh
        by_cases hyN : y < N
        · obtain ⟨wm, hwm⟩ : ∃ x, x = wr := ⟨_, rfl⟩
          subst hwm
          go_wp2_with fail
          go_loopw [10] (fun v wr => ∃ z : Nat, z ≤ N ∧ v = .int .i64 z ∧ CubB wr w.heap.size hi g N (fun _ => N) (fun _ _ => N) C3 B3 CC3 G3 (prP m fa fb x y z) ∧ Below w.heap.size w wr ∧ hi ≤ wr.heap.size) (fun v _ => N - (intOf v).toNat)
          case atStart => exact ⟨0, by omega, rfl, HC.out, HBw.out, HH.out⟩
          case round =>
            clear HC HBw HH
            obtain ⟨z, hz1, rfl, hc, hb, hh⟩ := hrel
            have HC := Lib.hid hc
            have HBw := Lib.hid hb
            have HH := Lib.hid hh
            clear hc hb hh
            by_cases hzN : z < N
            · obtain ⟨x1, x2⟩ := HQ.out x hxN
              obtain ⟨y1, y2⟩ := HQ.out y hyN
              obtain ⟨z1, z2⟩ := HQ.out z hzN
              have fx := HFA.out _ _ _ x1 y1 z1
              have gx := HFB.out _ _ _ x2 y2 z2
              have a1 := ((HA.out _ HBw.out).row _ x1).1
              have a2 := ((HA.out _ HBw.out).col _ _ x1 y1).1
              have a3 := (HA.out _ HBw.out).num _ _ _ x1 y1 z1
              have b1 := ((HB.out _ HBw.out).row _ x2).1
              have b2 := ((HB.out _ HBw.out).col _ _ x2 y2).1
              have b3 := (HB.out _ HBw.out).num _ _ _ x2 y2 z2
              have HV := Lib.hid (show fa (x / m) (y / m) (z / m) * fb (x % m) (y % m) (z % m) = prF m fa fb x y z from rfl)
              have dx : (x : Int).tdiv (m : Int) = ((x / m : Nat) : Int) := by rw [Int.tdiv_eq_ediv_of_nonneg (by omega), ← Int.natCast_ediv]
              have dy : (y : Int).tdiv (m : Int) = ((y / m : Nat) : Int) := by rw [Int.tdiv_eq_ediv_of_nonneg (by omega), ← Int.natCast_ediv]
              have dz : (z : Int).tdiv (m : Int) = ((z / m : Nat) : Int) := by rw [Int.tdiv_eq_ediv_of_nonneg (by omega), ← Int.natCast_ediv]
              have ex : (x : Int).tmod (m : Int) = ((x % m : Nat) : Int) := by rw [Int.tmod_eq_emod_of_nonneg (by omega), ← Int.natCast_emod]
              have ey : (y : Int).tmod (m : Int) = ((y % m : Nat) : Int) := by rw [Int.tmod_eq_emod_of_nonneg (by omega), ← Int.natCast_emod]
              have ez : (z : Int).tmod (m : Int) = ((z % m : Nat) : Int) := by rw [Int.tmod_eq_emod_of_nonneg (by omega), ← Int.natCast_emod]
              have lx := Nat.div_le_self x m
              have ly := Nat.div_le_self y m
              have lz := Nat.div_le_self z m
              generalize x / m = xq at *
              generalize y / m = yq at *
              generalize z / m = zq at *
              generalize x % m = xr at *
              generalize y % m = yr at *
              generalize z % m = zr at *
              have wx : IntKind.i64.wrap (xq : Int) = (xq : Int) := IntWalk.i64_in _ (by omega)
              have wy : IntKind.i64.wrap (yq : Int) = (yq : Int) := IntWalk.i64_in _ (by omega)
              have wz : IntKind.i64.wrap (zq : Int) = (zq : Int) := IntWalk.i64_in _ (by omega)
              generalize fa xq yq zq = p at *
              generalize fb xr yr zr = q at *
              have hpq1 : -1000000000000 ≤ p * q ∧ p * q ≤ 1000000000000 := by
                have h1 : (p * q).natAbs ≤ 1000000 * 1000000 := by
                  rw [Int.natAbs_mul]; exact Nat.mul_le_mul (by omega) (by omega)
                omega
              have wpq0 : IntKind.i64.wrap (p * q) = p * q := IntWalk.i64_in _ (by omega)
              obtain ⟨pq, hpq⟩ : ∃ v, v = p * q := ⟨_, rfl⟩
              have wpq : IntKind.i64.wrap (p * q) = pq := by rw [wpq0, hpq]
              rw [← hpq] at HV
              clear wpq0 hpq hpq1
              generalize BA xq = u1 at *
              generalize OA xq = u2 at *
              generalize CA xq = u3 at *
              generalize BA2 xq yq = u4 at *
              generalize OA2 xq yq = u5 at *
              generalize CA2 xq yq = u6 at *
              generalize BB xr = v1 at *
              generalize OB xr = v2 at *
              generalize CB xr = v3 at *
              generalize BB2 xr yr = v4 at *
              generalize OB2 xr yr = v5 at *
              generalize CB2 xr yr = v6 at *
              have c1 := RowB.cell HC.out.outer (show x < N by omega)
              have c2 := RowB.cell (HC.out.row x (by omega)).2.2.2.1.outer (show y < N by omega)
              have c3 := RowB.cell ((HC.out.row x (by omega)).2.2.2.1.row y (show y < N by omega)).2.2.2 (show z < N by omega)
              have c4 := RowB.frozen ((HC.out.row x (by omega)).2.2.2.1.row y (show y < N by omega)).2.2.2 z
              have HG := Lib.hid ((HC.out.row x (by omega)).2.2.2.1.row y (show y < N by omega)).1
              have HS := Lib.hid ((HC.out.set (i := x) (j := y) (k := z) (by omega) (by omega) pq).cong (fun a _ b _ k _ => prP_set HV.out a b k))
              have HB5 := Lib.hid (HBw.out.setCell (p := ⟨G3 x y, z, none⟩) HG.out (.int .i64 pq))
              go_wp2_with fail
              go_region
              go_wp2_with fail
              exact ⟨⟨z + 1, by omega, by go_num, HS.out.below (Below.refl _ _).drew (Nat.le_refl _), HB5.out.drew, by have := HH.out; simp; omega⟩, by simp [intOf]; omega⟩
            · obtain rfl : z = N := by omega
              have HC2 := Lib.hid (HC.out.cong (fun a _ b _ k hk => prP_next a b k hk))
              go_wp2_with fail
              exact ⟨⟨y + 1, by omega, by go_num, HC2.out, HBw.out, HH.out⟩, by simp [intOf]; omega⟩
        · obtain rfl : y = N := by omega
          have HC2 := Lib.hid (HC.out.cong (fun a _ b hb k _ => prP_row a b k hb))
          go_wp2_with fail
          exact ⟨⟨x + 1, by omega, by go_num, HC2.out, HBw.out, HH.out⟩, by simp [intOf]; omega⟩
    · obtain rfl : x = N := by omega
      have HF := Lib.hid (HC.out.cong (g := prF m fa fb) (fun a ha b _ k _ => by
        unfold prP
        rw [if_pos (Or.inl ha)]))
      go_wp2_with fail
      go_ret
      exact ⟨g, cg, rfl, CubO.mono ⟨C3, B3, CC3, G3, HF.out⟩ (Nat.le_refl _) HH.out, HBw.out⟩
end Go.Proofs.Ytfiilhoojoaflaa
