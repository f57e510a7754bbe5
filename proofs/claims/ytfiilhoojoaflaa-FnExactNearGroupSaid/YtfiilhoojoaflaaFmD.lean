/- Families of rings (the specification's): near-group rings. -/
import Derived.Test.YtfiilhoojoaflaaFmC
namespace Go.Proofs.Ytfiilhoojoaflaa
open Go.RowKit
set_option linter.unusedSimpArgs false
set_option linter.unusedVariables false
def nearP (o : Nat → Int) (n N q : Nat) (i j k : Nat) : Int := if (i < q ∧ j = N ∧ k = N) ∨ (i = N ∧ j < q ∧ k = N) ∨ (i = N ∧ j = N ∧ k < q) then 1 else grpF o n N i j k
def nearF (o : Nat → Int) (n N : Nat) (kk : Int) (i j k : Nat) : Int := if i = N ∧ j = N ∧ k = N then kk else nearP o n N N i j k
theorem nearP_zero (o : Nat → Int) (n N i j k : Nat) : grpF o n N i j k = nearP o n N 0 i j k := by
  unfold nearP; rw [if_neg (by omega)]
theorem nearP_next {o : Nat → Int} {n N q : Nat} (hq : q < N) (a b k : Nat) :
    (if a = N ∧ b = N ∧ k = q then (1 : Int) else if a = N ∧ b = q ∧ k = N then 1 else if a = q ∧ b = N ∧ k = N then 1 else nearP o n N q a b k) = nearP o n N (q + 1) a b k := by
  unfold nearP
  by_cases h : (a < q + 1 ∧ b = N ∧ k = N) ∨ (a = N ∧ b < q + 1 ∧ k = N) ∨ (a = N ∧ b = N ∧ k < q + 1)
  · rw [if_pos h]
    by_cases h1 : a = N ∧ b = N ∧ k = q
    · rw [if_pos h1]
    · rw [if_neg h1]
      by_cases h2 : a = N ∧ b = q ∧ k = N
      · rw [if_pos h2]
      · rw [if_neg h2]
        by_cases h3 : a = q ∧ b = N ∧ k = N
        · rw [if_pos h3]
        · rw [if_neg h3, if_pos (show (a < q ∧ b = N ∧ k = N) ∨ (a = N ∧ b < q ∧ k = N) ∨ (a = N ∧ b = N ∧ k < q) by
            rcases h with e | e | e
            · exact Or.inl ⟨by have : a ≠ q := fun e1 => h3 ⟨e1, e.2⟩
                               omega, e.2⟩
            · exact Or.inr (Or.inl ⟨e.1, by have : b ≠ q := fun e1 => h2 ⟨e.1, e1, e.2.2⟩
                                            omega, e.2.2⟩)
            · exact Or.inr (Or.inr ⟨e.1, e.2.1, by have : k ≠ q := fun e1 => h1 ⟨e.1, e.2.1, e1⟩
                                                   omega⟩))]
  · rw [if_neg h, if_neg (show ¬ (a = N ∧ b = N ∧ k = q) from fun e => h (Or.inr (Or.inr ⟨e.1, e.2.1, by omega⟩))), if_neg (show ¬ (a = N ∧ b = q ∧ k = N) from fun e => h (Or.inr (Or.inl ⟨e.1, by omega, e.2.2⟩))), if_neg (show ¬ (a = q ∧ b = N ∧ k = N) from fun e => h (Or.inl ⟨by omega, e.2⟩)),
      if_neg (fun e => h (by
        rcases e with e | e | e
        · exact Or.inl ⟨by omega, e.2⟩
        · exact Or.inr (Or.inl ⟨e.1, by omega, e.2.2⟩)
        · exact Or.inr (Or.inr ⟨e.1, e.2.1, by omega⟩)))]
set_option maxHeartbeats 4000000 in
theorem l06Near_f (a : Option Addr) (n c : Nat) (o : Nat → Int) (N : Nat) (kk : Int) (w : World) (h : RdR w a n o) (ho : ∀ i, i < n → 1 ≤ o i) (hp : prodO o n = N) (hN : N ≤ 16) (hn : n ≤ 9000000000) :
    Calls Try.prog 58 #[.slice a n c, .int .i64 kk] w fun e w' => ∃ g cg, e = .returned (.slice (some ⟨g, 0, none⟩) (N + 1 : Nat) cg) ∧ CubO w' w.heap.size w'.heap.size g (N + 1) (fun _ => N + 1) (fun _ _ => N + 1) (nearF o n N kk) ∧ Below w.heap.size w w' := by
  have HE := Lib.hid (l06Group_f a n c o N 1 w h ho hp hN (by omega) hn)
  clear h ho hp
  go_enter Try.func58, Try.ntmps58
  go_wp2_with fail
  refine HE.out.mono ?_
  rintro e w1 ⟨g, cg, rfl, ⟨C3, B3, CC3, G3, hc⟩, hb3⟩
  obtain ⟨hi, hhi⟩ : ∃ x, x = w1.heap.size := ⟨_, rfl⟩
  rw [← hhi] at hc
  have HHi := Lib.hid hhi
  have HC := Lib.hid hc
  have HBw := Lib.hid hb3
  have hm : ((N + 1 : Nat) : Int) - 1 = (N : Int) := by omega
  clear hc hb3 hhi HE
  go_wp2_with fail
  go_loopw [7] (fun x wr => ∃ q : Nat, q ≤ N ∧ x = .int .i64 q ∧ CubB wr w.heap.size hi g (N + 1) (fun _ => N + 1) (fun _ _ => N + 1) C3 B3 CC3 G3 (nearP o n N q) ∧ Below w.heap.size w wr ∧ hi ≤ wr.heap.size) (fun x _ => N - (intOf x).toNat)
  case atStart => exact ⟨0, by omega, rfl, HC.out.cong (fun a _ b _ k _ => nearP_zero o n N a b k), HBw.out, by rw [HHi.out]; exact Nat.le_refl _⟩
  case round =>
    clear HC HBw
    obtain ⟨q, hq1, rfl, hc, hb, hh⟩ := hrel
    have HC := Lib.hid hc
    have HBw := Lib.hid hb
    have HH := Lib.hid hh
    clear hc hb hh
    have HL := Lib.hid (fun (i j : Nat) (h1 : i < N + 1) (h2 : j < N + 1) => ((HC.out.row i h1).2.2.2.1.row j h2).1)
    by_cases hqN : q < N
    · have h1 := HC.out.set (i := q) (j := N) (k := N) (by omega) (by omega) 1
      have h2 := h1.set (i := N) (j := q) (k := N) (by omega) (by omega) 1
      have h3 := h2.set (i := N) (j := N) (k := q) (by omega) (by omega) 1
      have x1 := RowB.cell HC.out.outer (show q < N + 1 by omega)
      have x2 := RowB.cell (HC.out.row q (by omega)).2.2.2.1.outer (show N < N + 1 by omega)
      have x3 := RowB.cell ((HC.out.row q (by omega)).2.2.2.1.row N (show N < N + 1 by omega)).2.2.2 (show N < N + 1 by omega)
      have x4 := RowB.frozen ((HC.out.row q (by omega)).2.2.2.1.row N (show N < N + 1 by omega)).2.2.2 N
      have y1 := RowB.cell h1.outer (show N < N + 1 by omega)
      have y2 := RowB.cell (h1.row N (by omega)).2.2.2.1.outer (show q < N + 1 by omega)
      have y3 := RowB.cell ((h1.row N (by omega)).2.2.2.1.row q (show q < N + 1 by omega)).2.2.2 (show N < N + 1 by omega)
      have y4 := RowB.frozen ((h1.row N (by omega)).2.2.2.1.row q (show q < N + 1 by omega)).2.2.2 N
      have z1 := RowB.cell h2.outer (show N < N + 1 by omega)
      have z2 := RowB.cell (h2.row N (by omega)).2.2.2.1.outer (show N < N + 1 by omega)
      have z3 := RowB.cell ((h2.row N (by omega)).2.2.2.1.row N (show N < N + 1 by omega)).2.2.2 (show q < N + 1 by omega)
      have z4 := RowB.frozen ((h2.row N (by omega)).2.2.2.1.row N (show N < N + 1 by omega)).2.2.2 q
      have HS := Lib.hid (h3.cong (fun a _ b _ k _ => nearP_next hqN a b k))
      have HB5 := Lib.hid (((HBw.out.setCell (p := ⟨G3 q N, N, none⟩) (HL.out q N (by omega) (by omega)) (.int .i64 1)).setCell (p := ⟨G3 N q, N, none⟩) (HL.out N q (by omega) (by omega)) (.int .i64 1)).setCell (p := ⟨G3 N N, q, none⟩) (HL.out N N (by omega) (by omega)) (.int .i64 1))
      clear h1 h2 h3
      go_wp2_with fail
      exact ⟨⟨q + 1, by omega, by go_num, HS.out, HB5.out, by have := HH.out; simp; omega⟩, by simp [intOf]; omega⟩
    · obtain rfl : q = N := by omega
      have x1 := RowB.cell HC.out.outer (show q < q + 1 by omega)
      have x2 := RowB.cell (HC.out.row q (by omega)).2.2.2.1.outer (show q < q + 1 by omega)
      have x3 := RowB.cell ((HC.out.row q (by omega)).2.2.2.1.row q (show q < q + 1 by omega)).2.2.2 (show q < q + 1 by omega)
      have x4 := RowB.frozen ((HC.out.row q (by omega)).2.2.2.1.row q (show q < q + 1 by omega)).2.2.2 q
      have h1 := HC.out.set (i := q) (j := q) (k := q) (by omega) (by omega) kk
      have HS := Lib.hid (h1.cong (g := nearF o n q kk) (fun a _ b _ k _ => rfl))
      have HB5 := Lib.hid (HBw.out.setCell (p := ⟨G3 q q, q, none⟩) (HL.out q q (by omega) (by omega)) (.int .i64 kk))
      clear h1
      go_wp2_with fail
      go_ret
      exact ⟨g, cg, rfl, CubO.mono ⟨C3, B3, CC3, G3, HS.out⟩ (Nat.le_refl _) (by have := HH.out; simp; omega), HB5.out⟩
end Go.Proofs.Ytfiilhoojoaflaa
