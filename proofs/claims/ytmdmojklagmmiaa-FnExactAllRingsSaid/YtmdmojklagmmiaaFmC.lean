/- Families of rings (the specification's): group rings. -/
import Derived.Test.YtmdmojklagmmiaaFmB
namespace Go.Proofs.Ytmdmojklagmmiaa
open Go.RowKit
set_option linter.unusedSimpArgs false
set_option linter.unusedVariables false
/-- the table of a group ring with N elements -/
def grpF (o : Nat → Int) (n N : Nat) (i j k : Nat) : Int := if i < N ∧ j < N ∧ k = (addO o n i j).toNat then 1 else 0
def grpP (o : Nat → Int) (n N i j : Nat) (a b k : Nat) : Int := if a < i ∨ (a = i ∧ b < j) then grpF o n N a b k else 0
theorem szO_eq {o : Nat → Int} {n N : Nat} {lim : Int} (h : prodO o n = N) (hl : (N : Int) ≤ lim) : szO o n lim = N := by
  rw [szO, if_pos (by omega), h]
theorem grpP_next {o : Nat → Int} {n N i : Nat} (a b k S : Nat) (hb : b < S) (hN : N ≤ S) : grpP o n N i N a b k = grpP o n N (i + 1) 0 a b k := by
  unfold grpP grpF
  by_cases h1 : a < i
  · rw [if_pos (Or.inl h1), if_pos (Or.inl (by omega))]
  · by_cases h2 : a = i
    · rw [if_pos (show a < i + 1 ∨ a = i + 1 ∧ b < 0 from Or.inl (by omega))]
      by_cases h3 : b < N
      · rw [if_pos (Or.inr ⟨h2, h3⟩)]
      · rw [if_neg (by omega), if_neg (by omega)]
    · rw [if_neg (by omega), if_neg (by omega)]
theorem grpP_set {o : Nat → Int} {n N i j x : Nat} (hi : i < N) (hj : j < N) (hx : addO o n i j = x) (a b k : Nat) : (if a = i ∧ b = j ∧ k = x then (1 : Int) else grpP o n N i j a b k) = grpP o n N i (j + 1) a b k := by
  unfold grpP grpF
  by_cases h1 : a = i ∧ b = j
  · obtain ⟨rfl, rfl⟩ := h1
    rw [hx]
    by_cases h2 : k = x
    · rw [if_pos ⟨rfl, rfl, h2⟩, if_pos (Or.inr ⟨rfl, by omega⟩), if_pos ⟨hi, hj, by omega⟩]
    · rw [if_neg (by omega), if_neg (by omega), if_pos (Or.inr ⟨rfl, by omega⟩), if_neg (by omega)]
  · rw [if_neg (by omega)]
    by_cases h2 : a < i ∨ (a = i ∧ b < j)
    · rw [if_pos h2, if_pos (show a < i ∨ (a = i ∧ b < j + 1) by omega)]
    · rw [if_neg h2, if_neg (show ¬ (a < i ∨ (a = i ∧ b < j + 1)) by omega)]
set_option maxHeartbeats 4000000 in
theorem l06Group_f (a : Option Addr) (n c : Nat) (o : Nat → Int) (N r : Nat) (w : World) (h : RdR w a n o) (ho : ∀ i, i < n → 1 ≤ o i) (hp : prodO o n = N) (hN : N ≤ 16) (hr : r ≤ 100) (hn : n ≤ 9000000000) :
    Calls Try.prog 64 #[.slice a n c, .int .i64 r] w fun e w' => ∃ g cg, e = .returned (.slice (some ⟨g, 0, none⟩) (N + r : Nat) cg) ∧ CubO w' w.heap.size w'.heap.size g (N + r) (fun _ => N + r) (fun _ _ => N + r) (grpF o n N) ∧ Below w.heap.size w w' := by
  have HA := Lib.hid (fun (i j : Nat) (hi : i < N) (hj : j < N) u (hu : Below w.heap.size w u) => l06Add_f a n c o i j u (h.below hu (Nat.le_refl _)) ho (by omega) hn (by omega) (by omega) (by omega) (by omega))
  have HB := Lib.hid (fun (i j : Nat) => addO_bd (m := n) (i : Int) (j : Int) ho)
  have HZ := Lib.hid (l06Size_f a n c o 16 w h ho hn (by omega) (by omega))
  rw [szO_eq hp (by omega)] at HZ
  have HPr := Lib.hid hp
  clear h ho hp
  obtain ⟨S, hS⟩ : ∃ S, S = N + r := ⟨_, rfl⟩
  rw [← hS]
  have hw : IntKind.i64.wrap ((N : Int) + (r : Int)) = (S : Int) := by rw [IntWalk.i64_in _ (by omega)]; omega
  have HE := Lib.hid (l06Empty_f S w (by omega))
  have hNS : N ≤ S := by omega
  clear hS
  go_enter Try.func64, Try.ntmps64
  go_wp2_with fail
  refine HZ.out.mono ?_
  rintro e w1 ⟨rfl, rfl⟩
  go_wp2_with fail
  refine HE.out.mono ?_
  rintro e w1 ⟨g, cg, rfl, ⟨C3, B3, CC3, G3, hc⟩, hb3⟩
  obtain ⟨hi, hhi⟩ : ∃ x, x = w1.heap.size := ⟨_, rfl⟩
  rw [← hhi] at hc
  have HHi := Lib.hid hhi
  have HC := Lib.hid hc
  have HBw := Lib.hid hb3
  clear hc hb3 hhi
  go_wp2_with fail
  go_loopw [7] (fun x wr => ∃ i : Nat, i ≤ N ∧ x = .int .i64 i ∧ CubB wr w.heap.size hi g S (fun _ => S) (fun _ _ => S) C3 B3 CC3 G3 (grpP o n N i 0) ∧ Below w.heap.size w wr ∧ hi ≤ wr.heap.size) (fun x _ => N - (intOf x).toNat)
  case atStart => exact ⟨0, by omega, rfl, HC.out.cong (fun _ _ _ _ _ _ => by unfold grpP; rw [if_neg (by omega)]), HBw.out, by rw [HHi.out]; exact Nat.le_refl _⟩
  case round =>
    clear HC HBw
    obtain ⟨i, hi1, rfl, hc, hb, hh⟩ := hrel
    have HC := Lib.hid hc
    have HBw := Lib.hid hb
    have HH := Lib.hid hh
    clear hc hb hh
    by_cases hin : i < N
    · obtain ⟨wo, hwo⟩ : ∃ x, x = wr := ⟨_, rfl⟩
      subst hwo
      go_wp2_with fail
      go_loopw [8] (fun x wr => ∃ j : Nat, j ≤ N ∧ x = .int .i64 j ∧ CubB wr w.heap.size hi g S (fun _ => S) (fun _ _ => S) C3 B3 CC3 G3 (grpP o n N i j) ∧ Below w.heap.size w wr ∧ hi ≤ wr.heap.size) (fun x _ => N - (intOf x).toNat)
      case atStart => exact ⟨0, by omega, rfl, HC.out, HBw.out, HH.out⟩
      case round =>
        clear HC HBw HH
        obtain ⟨j, hj1, rfl, hc, hb, hh⟩ := hrel
        have HC := Lib.hid hc
        have HBw := Lib.hid hb
        have HH := Lib.hid hh
        clear hc hb hh
        by_cases hjn : j < N
        · have HAd := Lib.hid (HA.out i j hin hjn)
          have hxb := HB.out i j
          rw [HPr.out] at hxb
          obtain ⟨x, hx⟩ : ∃ x : Nat, addO o n i j = x := ⟨(addO o n i j).toNat, by omega⟩
          rw [hx] at HAd hxb
          have hxS : x < S := by omega
          have HX := Lib.hid hx
          clear hx
          have e1 := RowB.cell HC.out.outer (show i < S by omega)
          have e2 := RowB.cell (HC.out.row i (by omega)).2.2.2.1.outer (show j < S by omega)
          have HG := Lib.hid (fun u (hu : Below wr.heap.size wr u) => (HC.out.below hu (Nat.le_refl _)))
          have hGi := ((HC.out.row i (by omega)).2.2.2.1.row j (show j < S by omega)).1
          have HGl := Lib.hid hGi
          clear hGi
          go_wp2_with fail
          go_region_with (go_at_call 102; refine (HAd.out _ (by first | exact HBw.out | exact HBw.out.drew | exact below_drewN HBw.out _)).mono ?_; rintro e w5 ⟨rfl, hb5⟩; have HW5 := Lib.hid (show Below wr.heap.size wr w5 from ⟨hb5.os, hb5.tape, hb5.output, hb5.size, hb5.block⟩); clear hb5; have m1 := RowB.cell (HG.out w5 HW5.out).outer (show i < S by omega); have m2 := RowB.cell ((HG.out w5 HW5.out).row i (by omega)).2.2.2.1.outer (show j < S by omega); have m3 := RowB.cell (((HG.out w5 HW5.out).row i (by omega)).2.2.2.1.row j (show j < S by omega)).2.2.2 hxS; have m4 := RowB.frozen (((HG.out w5 HW5.out).row i (by omega)).2.2.2.1.row j (show j < S by omega)).2.2.2 x)
          all_goals
            have HS5 := Lib.hid (((HG.out _ HW5.out).set (i := i) (j := j) (k := x) (by omega) (by omega) 1).cong (fun a _ b _ k _ => grpP_set hin hjn HX.out a b k))
            have HB5 := Lib.hid ((HBw.out.trans (HW5.out.mono HBw.out.size)).setCell (p := ⟨G3 i j, x, none⟩) HGl.out (.int .i64 1))
            go_wp2_with fail
            exact ⟨⟨j + 1, by omega, by go_num, HS5.out, HB5.out, by have := HH.out; have := HW5.out.size; simp; omega⟩, by simp [intOf]; omega⟩
        · obtain rfl : j = N := by omega
          have HC2 := Lib.hid (HC.out.cong (fun a _ b hb k _ => grpP_next a b k S hb hNS))
          go_wp2_with fail
          exact ⟨⟨i + 1, by omega, by go_num, HC2.out, HBw.out, HH.out⟩, by simp [intOf]; omega⟩
    · obtain rfl : i = N := by omega
      go_wp2_with fail
      go_ret
      have HF := HC.out.cong (g := grpF o n i) (fun a _ b _ k _ => by
        unfold grpP grpF
        by_cases h1 : a < i
        · rw [if_pos (Or.inl h1)]
        · rw [if_neg (by omega), if_neg (by omega)])
      exact ⟨g, cg, rfl, CubO.mono ⟨C3, B3, CC3, G3, HF⟩ (Nat.le_refl _) HH.out, HBw.out⟩
end Go.Proofs.Ytmdmojklagmmiaa
