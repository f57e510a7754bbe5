/- Families of rings (the specification's): dihedral group rings. -/
import Derived.Test.YtfiilhoojoaflaaFmA
namespace Go.Proofs.Ytfiilhoojoaflaa
open Go.RowKit
set_option linter.unusedSimpArgs false
set_option linter.unusedVariables false
def dhZ (n x y : Nat) : Nat := (if x < n then (x % n + y % n) % n else (x % n + n - y % n) % n) + (if (x < n ∧ y < n) ∨ (¬ x < n ∧ ¬ y < n) then 0 else n)
theorem dhZ_lt {n x y : Nat} (h : 0 < n) : dhZ n x y < 2 * n := by
  unfold dhZ
  have h1 := Nat.mod_lt (x % n + y % n) h
  have h2 := Nat.mod_lt (x % n + n - y % n) h
  split <;> split <;> omega
def dhF (n x y z : Nat) : Int := if z = dhZ n x y then 1 else 0
def dhP (n x y : Nat) (a b c : Nat) : Int := if a < x ∨ (a = x ∧ b < y) then dhF n a b c else 0
theorem dhP_set {n x y z : Nat} (hz : z = dhZ n x y) (a b c : Nat) : (if a = x ∧ b = y ∧ c = z then (1 : Int) else dhP n x y a b c) = dhP n x (y + 1) a b c := by
  unfold dhP
  by_cases h : a = x ∧ b = y
  · obtain ⟨rfl, rfl⟩ := h
    rw [if_neg (show ¬ (a < a ∨ (a = a ∧ b < b)) by omega), if_pos (show a < a ∨ (a = a ∧ b < b + 1) by omega)]
    unfold dhF
    rw [← hz]
    by_cases h3 : c = z
    · rw [if_pos ⟨rfl, rfl, h3⟩, if_pos h3]
    · rw [if_neg (fun e => h3 e.2.2), if_neg h3]
  · rw [if_neg (fun e => h ⟨e.1, e.2.1⟩)]
    by_cases h2 : a < x ∨ (a = x ∧ b < y)
    · rw [if_pos h2, if_pos (show a < x ∨ (a = x ∧ b < y + 1) by omega)]
    · rw [if_neg h2, if_neg (show ¬ (a < x ∨ (a = x ∧ b < y + 1)) by omega)]
theorem dhP_row {n N x : Nat} (a b c : Nat) (hb : b < N) : dhP n x N a b c = dhP n (x + 1) 0 a b c := by
  unfold dhP
  by_cases h2 : a < x ∨ (a = x ∧ b < N)
  · rw [if_pos h2, if_pos (show a < x + 1 ∨ (a = x + 1 ∧ b < 0) by omega)]
  · rw [if_neg h2, if_neg (show ¬ (a < x + 1 ∨ (a = x + 1 ∧ b < 0)) by omega)]
set_option maxHeartbeats 4000000 in
theorem l06DihedralGroup_f (n : Nat) (w : World) (h0 : 0 < n) (hn : n ≤ 100) :
    Calls Try.prog 56 #[.int .i64 n] w fun e w' => ∃ g cg, e = .returned (.slice (some ⟨g, 0, none⟩) (2 * n : Nat) cg) ∧ CubO w' w.heap.size w'.heap.size g (2 * n) (fun _ => 2 * n) (fun _ _ => 2 * n) (dhF n) ∧ Below w.heap.size w w' := by
  have HE := Lib.hid (l06Empty_f (2 * n) w (by omega))
  obtain ⟨N, hN⟩ : ∃ N, N = 2 * n := ⟨_, rfl⟩
  have hw1 : IntKind.i64.wrap (2 * (n : Int)) = (N : Int) := by rw [IntWalk.i64_in _ (by omega)]; omega
  rw [← hN] at HE ⊢
  have HN := Lib.hid hN
  have hNb : N ≤ 200 := by omega
  clear hN
  have hz : ((n : Int) == 0) = false := by simp; omega
  go_enter Try.func56, Try.ntmps56
  go_wp2_with fail
  refine HE.out.mono ?_
  rintro e w1 ⟨g, cg, rfl, ⟨C3, B3, CC3, G3, hc⟩, hb3⟩
  obtain ⟨hi, hhi⟩ : ∃ x, x = w1.heap.size := ⟨_, rfl⟩
  rw [← hhi] at hc
  have HHi := Lib.hid hhi
  have HC := Lib.hid hc
  have HBw := Lib.hid hb3
  clear hc hb3 hhi HE
  go_wp2_with fail
  go_loopw [4] (fun v wr => ∃ x : Nat, x ≤ N ∧ v = .int .i64 x ∧ CubB wr w.heap.size hi g N (fun _ => N) (fun _ _ => N) C3 B3 CC3 G3 (dhP n x 0) ∧ Below w.heap.size w wr ∧ hi ≤ wr.heap.size) (fun v _ => N - (intOf v).toNat)
  case atStart => exact ⟨0, by omega, rfl, HC.out.cong (fun _ _ _ _ _ _ => by unfold dhP; rw [if_neg (by omega)]), HBw.out, by rw [HHi.out]; exact Nat.le_refl _⟩
  case round =>
    clear HC HBw
    obtain ⟨x, hx1, rfl, hc, hb, hh⟩ := hrel
    have HC := Lib.hid hc
    have HBw := Lib.hid hb
    have HH := Lib.hid hh
    clear hc hb hh
    by_cases hxN : x < N
    · obtain ⟨wo, hwo⟩ : ∃ x, x = wr := ⟨_, rfl⟩
      subst hwo
      go_wp2_with fail
      go_loopw [5] (fun v wr => ∃ y : Nat, y ≤ N ∧ v = .int .i64 y ∧ CubB wr w.heap.size hi g N (fun _ => N) (fun _ _ => N) C3 B3 CC3 G3 (dhP n x y) ∧ Below w.heap.size w wr ∧ hi ≤ wr.heap.size) (fun v _ => N - (intOf v).toNat)
      case atStart => exact ⟨0, by omega, rfl, HC.out, HBw.out, HH.out⟩
      case round =>
        clear HC HBw HH
        obtain ⟨y, hy1, rfl, hc, hb, hh⟩ := hrel
        have HC := Lib.hid hc
        have HBw := Lib.hid hb
        have HH := Lib.hid hh
        clear hc hb hh
        by_cases hyN : y < N
        · have ex : (x : Int).tmod (n : Int) = ((x % n : Nat) : Int) := by rw [Int.tmod_eq_emod_of_nonneg (by omega), ← Int.natCast_emod]
          have ey : (y : Int).tmod (n : Int) = ((y % n : Nat) : Int) := by rw [Int.tmod_eq_emod_of_nonneg (by omega), ← Int.natCast_emod]
          go_wp2_with fail
          go_region
          obtain ⟨wd, hwd⟩ : ∃ x, x = wr.drew := ⟨_, rfl⟩
          rw [← hwd]
          simp only [← Int.natCast_emod]
          have HH := Lib.hid (show hi ≤ wd.heap.size by rw [hwd]; exact HH.out)
          have HC := Lib.hid (show CubB wd w.heap.size hi g N (fun _ => N) (fun _ _ => N) C3 B3 CC3 G3 (dhP n x y) by rw [hwd]; exact HC.out.below (Below.refl _ _).drew (Nat.le_refl _))
          have HBw := Lib.hid (show Below w.heap.size w wd by rw [hwd]; exact HBw.out.drew)
          clear hwd ex ey
          have HZe := Lib.hid (show dhZ n x y = (if x < n then (x % n + y % n) % n else (x % n + n - y % n) % n) + (if (x < n ∧ y < n) ∨ (¬ x < n ∧ ¬ y < n) then 0 else n) from rfl)
          have hzl := dhZ_lt (x := x) (y := y) h0
          have bx := Nat.mod_lt x h0
          have bY := Nat.mod_lt y h0
          obtain ⟨z, hze⟩ : ∃ z, z = dhZ n x y := ⟨_, rfl⟩
          rw [← hze] at HZe hzl
          have HZd := Lib.hid hze
          clear hze
          generalize x % n = i at *
          generalize y % n = k at *
          have hzN : z < N := by have := HN.out; omega
          have c1 := RowB.cell HC.out.outer (show x < N by omega)
          have c2 := RowB.cell (HC.out.row x (by omega)).2.2.2.1.outer (show y < N by omega)
          have c3 := RowB.cell ((HC.out.row x (by omega)).2.2.2.1.row y (show y < N by omega)).2.2.2 hzN
          have c4 := RowB.frozen ((HC.out.row x (by omega)).2.2.2.1.row y (show y < N by omega)).2.2.2 z
          have HG := Lib.hid ((HC.out.row x (by omega)).2.2.2.1.row y (show y < N by omega)).1
          have HS := Lib.hid ((HC.out.set (i := x) (j := y) (k := z) (by omega) (by omega) 1).cong (fun a _ b _ k _ => dhP_set HZd.out a b k))
          have HB5 := Lib.hid (HBw.out.setCell (p := ⟨G3 x y, z, none⟩) HG.out (.int .i64 1))
          have s1 : IntKind.i64.wrap ((i : Int) + (k : Int)) = (i : Int) + (k : Int) := IntWalk.i64_in _ (by omega)
          have s2 : ((i : Int) + (k : Int)).tmod (n : Int) = (((i + k) % n : Nat) : Int) := by rw [Int.tmod_eq_emod_of_nonneg (by omega), ← Int.natCast_add, ← Int.natCast_emod]
          have s3 : IntKind.i64.wrap ((i : Int) - (k : Int)) = (i : Int) - (k : Int) := IntWalk.i64_in _ (by omega)
          have s4 : IntKind.i64.wrap ((i : Int) - (k : Int) + (n : Int)) = ((i + n - k : Nat) : Int) := by rw [IntWalk.i64_in _ (by omega)]; omega
          have s5 : ((i + n - k : Nat) : Int).tmod (n : Int) = (((i + n - k) % n : Nat) : Int) := by rw [Int.tmod_eq_emod_of_nonneg (by omega), ← Int.natCast_emod]
          have d1 := Nat.mod_lt (i + k) h0
          have d2 := Nat.mod_lt (i + n - k) h0
          generalize (i + k) % n = za at *
          generalize (i + n - k) % n = zb at *
          have s6 : IntKind.i64.wrap ((za : Int) + (n : Int)) = ((za + n : Nat) : Int) := by rw [IntWalk.i64_in _ (by omega)]; omega
          have s7 : IntKind.i64.wrap ((zb : Int) + (n : Int)) = ((zb + n : Nat) : Int) := by rw [IntWalk.i64_in _ (by omega)]; omega
          have hze := HZe.out
          clear HZe
          by_cases hxn : x < n
          all_goals by_cases hyn : y < n
          all_goals
            simp only [hxn, hyn, if_true, if_false, and_self, and_true, true_and, or_false, false_or, not_true_eq_false, not_false_eq_true, and_false, false_and, Nat.add_zero] at hze
            subst hze
            go_wp2_with fail
            all_goals first | exact ⟨⟨y + 1, by omega, by go_num, HS.out, HB5.out, by have := HH.out; simp; omega⟩, by simp [intOf]; omega⟩ | (exfalso; simp only [Bool.not_eq_eq_eq_not, Bool.not_false, Bool.not_true, decide_eq_true_eq, decide_eq_false_iff_not] at *; omega)
        · obtain rfl : y = N := by omega
          have HC2 := Lib.hid (HC.out.cong (fun a _ b hb k _ => dhP_row (n := n) a b k hb))
          go_wp2_with fail
          exact ⟨⟨x + 1, by omega, by go_num, HC2.out, HBw.out, HH.out⟩, by simp [intOf]; omega⟩
    · obtain rfl : x = N := by omega
      have HF := Lib.hid (HC.out.cong (g := dhF n) (fun a ha b _ k _ => by
        unfold dhP
        rw [if_pos (Or.inl ha)]))
      go_wp2_with fail
      go_ret
      exact ⟨g, cg, rfl, CubO.mono ⟨C3, B3, CC3, G3, HF.out⟩ (Nat.le_refl _) HH.out, HBw.out⟩
end Go.Proofs.Ytfiilhoojoaflaa
