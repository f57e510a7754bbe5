/- Sums of products of lists. -/
import Derived.Test.YtjmkmcabpjmkgabSlc
namespace Go.Proofs.Ytjmkmcabpjmkgab
open Go.RowKit
/-- the sum of the first k products -/
def dotTo (xs ys : List Int) : Nat → Int
  | 0 => 0
  | k + 1 => (dotTo xs ys k + xs.getD k 0 * ys.getD k 0) % 55441
theorem dotTo_bd (xs ys : List Int) (k : Nat) : 0 ≤ dotTo xs ys k ∧ dotTo xs ys k < 55441 := by
  cases k with
  | zero => simp [dotTo]
  | succ k => rw [dotTo]; omega
theorem getD_at {xs : List Int} {i : Nat} (h : i < xs.length) : xs.getD i 0 = xs[i] := by simp [List.getD, h]
theorem below_draws {B : Nat} {w wr : World} (h : Below B w wr) (n : Nat) : Below B w (wr.drewN n) := ⟨h.os, h.tape, h.output, h.size, h.block⟩
theorem all_of {xs : List Int} {n : Nat} (hl : xs.length = n) (h : ∀ j, j < n → numB (xs.getD j 0) = true) : xs.all numB = true := by
  rw [List.all_eq_true]
  intro x hx
  obtain ⟨j, hj, rfl⟩ := List.getElem_of_mem hx
  have := h j (by omega)
  rwa [getD_at hj] at this
theorem not_all {xs : List Int} {n k : Nat} (hl : xs.length = n) (hk : k < n) (h : numB (xs.getD k 0) = false) : xs.all numB = false := by
  rw [List.all_eq_false]
  refine ⟨xs.getD k 0, ?_, by rw [h]; simp⟩
  rw [getD_at (by omega)]
  exact List.getElem_mem _
theorem all_at {xs : List Int} {n k : Nat} (hl : xs.length = n) (h : xs.all numB = true) (hk : k < n) : numB (xs.getD k 0) = true := by
  rw [List.all_eq_true] at h
  rw [getD_at (by omega)]
  exact h _ (List.getElem_mem _)
theorem eqInt64S_any (a b : Option Addr) (n c d : Nat) (xs : List Int) (w : World) (ha : RdI w a n xs) (hb : RdI w b n xs) (hn : n ≤ 1048576) :
    Calls Try.prog 13 #[.slice a n c, .slice b n d] w fun e w' => e = .returned (.bool true) ∧ Below w.heap.size w w' := by
  have hca := ha.cells
  have hcb := hb.cells
  clear ha hb
  have hnn : ((n : Int) != (n : Int)) = false := by simp
  rcases hca with h0 | ⟨b1, o1, rfl, l1, c1⟩
  · have H0 := Lib.hid h0
    clear h0 hcb
    go_enter Try.func13, Try.ntmps13
    go_wp2_with fail
    go_loopw [5] (fun i wr => ∃ k : Nat, k ≤ n ∧ i = .int .i64 k ∧ Below w.heap.size w wr) (fun i _ => n - (intOf i).toNat)
    case atStart => exact ⟨0, by omega, rfl, Below.refl _ _⟩
    case round =>
      obtain ⟨k, hk, rfl, hbl⟩ := hrel
      obtain rfl : k = n := by have := H0.out; omega
      have Hbl := Lib.hid hbl
      clear hbl
      go_wp2_with fail
      go_ret
      exact ⟨rfl, Hbl.out⟩
  · rcases hcb with h0 | ⟨b2, o2, rfl, l2, c2⟩
    · have H0 := Lib.hid h0
      have C1 := Lib.hid c1
      clear h0 c1
      go_enter Try.func13, Try.ntmps13
      go_wp2_with fail
      go_loopw [5] (fun i wr => ∃ k : Nat, k ≤ n ∧ i = .int .i64 k ∧ Below w.heap.size w wr) (fun i _ => n - (intOf i).toNat)
      case atStart => exact ⟨0, by omega, rfl, Below.refl _ _⟩
      case round =>
        obtain ⟨k, hk, rfl, hbl⟩ := hrel
        obtain rfl : k = n := by have := H0.out; omega
        have Hbl := Lib.hid hbl
        clear hbl
        go_wp2_with fail
        go_ret
        exact ⟨rfl, Hbl.out⟩
    · have C1 := Lib.hid c1
      have C2 := Lib.hid c2
      clear c1 c2
      go_enter Try.func13, Try.ntmps13
      go_wp2_with fail
      go_loopw [5] (fun i wr => ∃ k : Nat, k ≤ n ∧ i = .int .i64 k ∧ Below w.heap.size w wr) (fun i _ => n - (intOf i).toNat)
      case atStart => exact ⟨0, by omega, rfl, Below.refl _ _⟩
      case round =>
        obtain ⟨k, hk, rfl, hbl⟩ := hrel
        by_cases hlt : k < n
        · have e1 : wr.cell? ⟨b1, o1 + k, none⟩ = some (.int .i64 (xs.getD k 0)) := by rw [hbl.cell (p := ⟨b1, o1 + k, none⟩) l1]; exact C1.out k hlt
          have e2 : wr.cell? ⟨b2, o2 + k, none⟩ = some (.int .i64 (xs.getD k 0)) := by rw [hbl.cell (p := ⟨b2, o2 + k, none⟩) l2]; exact C2.out k hlt
          have Hbl := Lib.hid hbl
          clear hbl
          generalize xs.getD k 0 = x at *
          have hne : (x != x) = false := by simp
          go_wp2_with fail
          go_quiet (fail)
          go_wp2_with fail
          exact ⟨⟨k + 1, by omega, by go_num, below_draws Hbl.out _⟩, by simp [intOf]; omega⟩
        · obtain rfl : k = n := by omega
          have Hbl := Lib.hid hbl
          clear hbl
          go_wp2_with fail
          go_ret
          exact ⟨rfl, Hbl.out⟩
theorem l01Numbers_any (a : Option Addr) (n c : Nat) (xs : List Int) (w : World) (ha : RdI w a n xs) (hn : n ≤ 1048576) :
    Calls Try.prog 21 #[.slice a n c] w fun e w' => e = .returned (.bool (xs.all numB)) ∧ w = w' := by
  have Hl := Lib.hid ha.len
  have hca := ha.cells
  clear ha
  rcases hca with h0 | ⟨b1, o1, rfl, l1, c1⟩
  · have H0 := Lib.hid h0
    clear h0
    go_enter Try.func21, Try.ntmps21
    go_wp2_with fail
    go_loop [3] (fun i => ∃ k : Nat, k ≤ n ∧ i = .int .i64 k ∧ ∀ j, j < k → numB (xs.getD j 0) = true) (fun i => n - (intOf i).toNat)
    case atStart => exact ⟨0, by omega, rfl, fun j hj => absurd hj (by omega)⟩
    case round =>
      obtain ⟨k, hk, rfl, hall⟩ := hrel
      have Hall := Lib.hid hall
      clear hall
      by_cases hlt : k < n
      · have := H0.out; omega
      · obtain rfl : k = n := by omega
        have H := Lib.hid (all_of Hl.out Hall.out)
        go_wp2_with fail
        go_ret
        exact ⟨ret_bool H.out.symm, rfl⟩
  · have C1 := Lib.hid c1
    clear c1
    go_enter Try.func21, Try.ntmps21
    go_wp2_with fail
    go_loop [3] (fun i => ∃ k : Nat, k ≤ n ∧ i = .int .i64 k ∧ ∀ j, j < k → numB (xs.getD j 0) = true) (fun i => n - (intOf i).toNat)
    case atStart => exact ⟨0, by omega, rfl, fun j hj => absurd hj (by omega)⟩
    case round =>
      obtain ⟨k, hk, rfl, hall⟩ := hrel
      have Hall := Lib.hid hall
      clear hall
      by_cases hlt : k < n
      · have e1 := C1.out k hlt
        obtain ⟨x, hx⟩ : ∃ x, x = xs.getD k 0 := ⟨_, rfl⟩
        rw [← hx] at e1
        have Hx := Lib.hid hx
        clear hx
        cases hb : numB x
        · have H := Lib.hid (not_all Hl.out hlt (by rw [← Hx.out]; exact hb))
          go_wp2_with (go_at_call 17; refine (l01Number_any _ _).mono ?_; rintro e w' ⟨rfl, rfl⟩)
          go_ret
          exact ⟨ret_bool H.out.symm, rfl⟩
        · have Hn := Lib.hid (show ∀ j, j < k + 1 → numB (xs.getD j 0) = true from fun j hj => by
            by_cases e : j = k
            · rw [e, ← Hx.out]; exact hb
            · exact Hall.out j (by omega))
          go_wp2_with (go_at_call 17; refine (l01Number_any _ _).mono ?_; rintro e w' ⟨rfl, rfl⟩)
          go_round
          case rel => exact ⟨k + 1, by omega, by go_num, Hn.out⟩
          case measure => simp [intOf]; omega
      · obtain rfl : k = n := by omega
        have H := Lib.hid (all_of Hl.out Hall.out)
        go_wp2_with fail
        go_ret
        exact ⟨ret_bool H.out.symm, rfl⟩
theorem l01Dot_any (a b : Option Addr) (n c d : Nat) (xs ys : List Int) (w : World) (ha : RdI w a n xs) (hb : RdI w b n ys) (hn : n ≤ 1048576) (hx : xs.all numB = true) (hy : ys.all numB = true) :
    Calls Try.prog 22 #[.slice a n c, .slice b n d] w fun e w' => e = .returned (.int .i64 (dotTo xs ys n)) ∧ Below w.heap.size w w' := by
  have Hl := Lib.hid ha.len
  have Hm := Lib.hid hb.len
  have HX := Lib.hid hx
  have HY := Lib.hid hy
  have hca := ha.cells
  have hcb := hb.cells
  clear ha hb hx hy
  rcases hca with h0 | ⟨b1, o1, rfl, l1, c1⟩
  · have H0 := Lib.hid h0
    clear h0 hcb
    go_enter Try.func22, Try.ntmps22
    go_wp2_with fail
    go_loopw [5, 6] (fun s i wr => ∃ k : Nat, k ≤ n ∧ i = .int .i64 k ∧ s = .int .i64 (dotTo xs ys k) ∧ Below w.heap.size w wr) (fun _ i _ => n - (intOf i).toNat)
    case atStart => exact ⟨0, by omega, rfl, rfl, Below.refl _ _⟩
    case round =>
      obtain ⟨k, hk, rfl, rfl, hbl⟩ := hrel
      obtain ⟨d0, d1⟩ := dotTo_bd xs ys k
      by_cases hlt : k < n
      · have := H0.out; omega
      · obtain rfl : k = n := by omega
        have Hbl := Lib.hid hbl
        clear hbl
        go_wp2_with fail
        go_ret
        exact ⟨rfl, Hbl.out⟩
  · rcases hcb with h0 | ⟨b2, o2, rfl, l2, c2⟩
    · have H0 := Lib.hid h0
      clear h0
      go_enter Try.func22, Try.ntmps22
      go_wp2_with fail
      go_loopw [5, 6] (fun s i wr => ∃ k : Nat, k ≤ n ∧ i = .int .i64 k ∧ s = .int .i64 (dotTo xs ys k) ∧ Below w.heap.size w wr) (fun _ i _ => n - (intOf i).toNat)
      case atStart => exact ⟨0, by omega, rfl, rfl, Below.refl _ _⟩
      case round =>
        obtain ⟨k, hk, rfl, rfl, hbl⟩ := hrel
        obtain ⟨d0, d1⟩ := dotTo_bd xs ys k
        by_cases hlt : k < n
        · have := H0.out; omega
        · obtain rfl : k = n := by omega
          have Hbl := Lib.hid hbl
          clear hbl
          go_wp2_with fail
          go_ret
          exact ⟨rfl, Hbl.out⟩
    · have C1 := Lib.hid c1
      have C2 := Lib.hid c2
      clear c1 c2
      go_enter Try.func22, Try.ntmps22
      go_wp2_with fail
      go_loopw [5, 6] (fun s i wr => ∃ k : Nat, k ≤ n ∧ i = .int .i64 k ∧ s = .int .i64 (dotTo xs ys k) ∧ Below w.heap.size w wr) (fun _ i _ => n - (intOf i).toNat)
      case atStart => exact ⟨0, by omega, rfl, rfl, Below.refl _ _⟩
      case round =>
        obtain ⟨k, hk, rfl, rfl, hbl⟩ := hrel
        obtain ⟨d0, d1⟩ := dotTo_bd xs ys k
        by_cases hlt : k < n
        · have e1 : wr.cell? ⟨b1, o1 + k, none⟩ = some (.int .i64 (xs.getD k 0)) := by rw [hbl.cell (p := ⟨b1, o1 + k, none⟩) l1]; exact C1.out k hlt
          have e2 : wr.cell? ⟨b2, o2 + k, none⟩ = some (.int .i64 (ys.getD k 0)) := by rw [hbl.cell (p := ⟨b2, o2 + k, none⟩) l2]; exact C2.out k hlt
          have x1 := numB_t (all_at Hl.out HX.out hlt)
          have y1 := numB_t (all_at Hm.out HY.out hlt)
          have Hd := Lib.hid (show dotTo xs ys (k + 1) = (dotTo xs ys k + xs.getD k 0 * ys.getD k 0) % 55441 from rfl)
          have Hbl := Lib.hid hbl
          clear hbl
          generalize xs.getD k 0 = x at *
          generalize ys.getD k 0 = y at *
          generalize dotTo xs ys k = s at *
          obtain ⟨m0, m1⟩ := mul_bound x y x1.1 x1.2 y1.1 y1.2
          have f1 : IntKind.i64.wrap (x * y) = x * y := IntWalk.i64_in _ (by omega)
          have f2 : IntKind.i64.wrap (s + x * y) = s + x * y := IntWalk.i64_in _ (by omega)
          have f3 : (s + x * y).tmod 55441 = (s + x * y) % 55441 := Int.tmod_eq_emod_of_nonneg (by omega)
          go_wp2_with fail
          go_quiet (fail)
          clear f1 f2 f3
          go_wp2_with fail
          exact ⟨⟨k + 1, by omega, by go_num, by rw [Hd.out], below_draws Hbl.out _⟩, by simp [intOf]; omega⟩
        · obtain rfl : k = n := by omega
          have Hbl := Lib.hid hbl
          clear hbl
          go_wp2_with fail
          go_ret
          exact ⟨rfl, Hbl.out⟩
end Go.Proofs.Ytjmkmcabpjmkgab
