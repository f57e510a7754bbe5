/- Dihedral rings (the specification's). -/
import Derived.Test.YtmdmojklagmmiaaDiM
import Derived.Lib.MinMax
import Derived.ArgAppend
namespace Go.Proofs.Ytmdmojklagmmiaa
open Go.RowKit
set_option linter.unusedSimpArgs false
set_option linter.unusedVariables false
theorem lit_two (w : World) (x y : Int) : RowI (w.alloc (.cells #[.int .i64 x, .int .i64 y] 2)) 2 w.heap.size 2 (fun i => if i = 0 then x else y) := ⟨_, heap_alloc_new w _, fun i hi => by
  match i, hi with
  | 0, _ => rfl
  | 1, _ => rfl⟩
theorem lit_one (w : World) (x : Int) : RowI (w.alloc (.cells #[.int .i64 x] 2)) 2 w.heap.size 1 (fun _ => x) := ⟨_, heap_alloc_new w _, fun i hi => by
  match i, hi with
  | 0, _ => rfl⟩
/-- what a call that makes a list of labels returns -/
def LblRes (w : World) (l : List Nat) (e : Ending) (w' : World) : Prop :=
  ∃ g, e = .returned (.slice (some ⟨g, 0, none⟩) l.length l.length) ∧ w.heap.size ≤ g ∧ RowI w' 2 g l.length (fun i => ((l.getD i 0 : Nat) : Int)) ∧ Below w.heap.size w w'
theorem lblRes_two (w : World) (l : List Nat) (x y : Nat) (h : l = [x, y]) : LblRes w l (.returned (.slice (some ⟨w.heap.size, 0, none⟩) 2 2)) (w.alloc (.cells #[.int .i64 (x : Nat), .int .i64 (y : Nat)] 2)) := by
  subst h
  refine ⟨w.heap.size, rfl, Nat.le_refl _, (lit_two w x y).congr fun i hi => ?_, below_alloc _ _⟩
  match i, hi with
  | 0, _ => rfl
  | 1, _ => rfl
theorem lblRes_one (w : World) (l : List Nat) (x : Nat) (h : l = [x]) : LblRes w l (.returned (.slice (some ⟨w.heap.size, 0, none⟩) 1 1)) (w.alloc (.cells #[.int .i64 (x : Nat)] 2)) := by
  subst h
  refine ⟨w.heap.size, rfl, Nat.le_refl _, (lit_one w x).congr fun i hi => ?_, below_alloc _ _⟩
  match i, hi with
  | 0, _ => rfl
set_option maxRecDepth 100000 in
set_option maxHeartbeats 2000000 in
theorem l06Turn_f (n h : Nat) (w : World) (hn : n ≤ 100) (hh : h ≤ n) : Calls Try.prog 65 #[.int .i64 n, .int .i64 h] w (LblRes w (tuL n h)) := by
  have HT := Lib.hid (show tuL n h = if tuH n h = 0 then [0, 1] else if 2 * tuH n h = n then [2, 3] else [dL n - 1 + tuH n h] from rfl)
  have w1 : IntKind.i64.wrap (2 * (h : Int)) = ((2 * h : Nat) : Int) := by rw [IntWalk.i64_in _ (by omega)]; omega
  have w2 : IntKind.i64.wrap ((n : Int) - (h : Int)) = ((n - h : Nat) : Int) := by rw [IntWalk.i64_in _ (by omega)]; omega
  have HH := Lib.hid (show tuH n h = if n < 2 * h then n - h else h from rfl)
  obtain ⟨t, ht⟩ : ∃ t, t = tuH n h := ⟨_, rfl⟩
  rw [← ht] at HT HH
  clear ht
  have ht := HH.out
  clear HH
  have htn : t ≤ n := by split at ht <;> omega
  have w3 : IntKind.i64.wrap (2 * (t : Int)) = ((2 * t : Nat) : Int) := by rw [IntWalk.i64_in _ (by omega)]; omega
  have par : ((n : Int).tmod 2 = 0 ∧ dL n - 1 = 3) ∨ ((n : Int).tmod 2 = 1 ∧ dL n - 1 = 1) := by
    rcases dL_cases n with ⟨e, h1, h2⟩ | ⟨e, h1, h2⟩
    · left; rw [Int.tmod_eq_emod_of_nonneg (by omega)]; omega
    · right; rw [Int.tmod_eq_emod_of_nonneg (by omega)]; omega
  by_cases hb : n < 2 * h
  · rw [if_pos hb] at ht
    subst ht
    rcases par with ⟨p1, p2⟩ | ⟨p1, p2⟩
    all_goals
      rw [p2] at HT
      have w4 : IntKind.i64.wrap (3 + ((n - h : Nat) : Int)) = ((3 + (n - h) : Nat) : Int) := by rw [IntWalk.i64_in _ (by omega)]; omega
      have w5 : IntKind.i64.wrap (1 + ((n - h : Nat) : Int)) = ((1 + (n - h) : Nat) : Int) := by rw [IntWalk.i64_in _ (by omega)]; omega
      by_cases h0 : n - h = 0
      · have HR := Lib.hid (lblRes_two w (tuL n h) 0 1 (by rw [HT.out, if_pos h0]))
        clear p2
        generalize n - h = t at *
        subst h0
        go_enter Try.func65, Try.ntmps65
        go_wp2_with fail
        go_ret
        exact HR.out
      · by_cases h1 : 2 * (n - h) = n
        · have HR := Lib.hid (lblRes_two w (tuL n h) 2 3 (by rw [HT.out, if_neg h0, if_pos h1]))
          clear p2
          generalize n - h = t at *
          go_enter Try.func65, Try.ntmps65
          go_wp2_with fail
          go_ret
          exact HR.out
        · have HR := Lib.hid (lblRes_one w (tuL n h) _ (by rw [HT.out, if_neg h0, if_neg h1]))
          clear p2
          generalize n - h = t at *
          go_enter Try.func65, Try.ntmps65
          go_wp2_with fail
          go_ret
          exact HR.out
  · rw [if_neg hb] at ht
    obtain rfl : t = h := ht
    rcases par with ⟨p1, p2⟩ | ⟨p1, p2⟩
    all_goals
      rw [p2] at HT
      have w4 : IntKind.i64.wrap (3 + (t : Int)) = ((3 + t : Nat) : Int) := by rw [IntWalk.i64_in _ (by omega)]; omega
      have w5 : IntKind.i64.wrap (1 + (t : Int)) = ((1 + t : Nat) : Int) := by rw [IntWalk.i64_in _ (by omega)]; omega
      by_cases h0 : t = 0
      · have HR := Lib.hid (lblRes_two w (tuL n t) 0 1 (by rw [HT.out, if_pos h0]))
        clear p2
        subst h0
        go_enter Try.func65, Try.ntmps65
        go_wp2_with fail
        go_ret
        exact HR.out
      · by_cases h1 : 2 * t = n
        · have HR := Lib.hid (lblRes_two w (tuL n t) 2 3 (by rw [HT.out, if_neg h0, if_pos h1]))
          clear p2
          go_enter Try.func65, Try.ntmps65
          go_wp2_with fail
          go_ret
          exact HR.out
        · have HR := Lib.hid (lblRes_one w (tuL n t) _ (by rw [HT.out, if_neg h0, if_neg h1]))
          clear p2
          go_enter Try.func65, Try.ntmps65
          go_wp2_with fail
          go_ret
          exact HR.out
end Go.Proofs.Ytmdmojklagmmiaa
