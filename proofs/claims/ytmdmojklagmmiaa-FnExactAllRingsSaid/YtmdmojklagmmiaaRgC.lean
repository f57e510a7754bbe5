/- The rank, the duals, the faults of units and duals: of the program. -/
import Derived.Test.YtmdmojklagmmiaaRgB
import Derived.Test.YtmdmojklagmmiaaOwn
namespace Go.Proofs.Ytmdmojklagmmiaa
open Go.RowKit
set_option linter.unusedSimpArgs false
theorem rank_f (a : Option Addr) (n c : Nat) (w : World) : Calls Try.prog 37 #[.agg #[.slice a n c]] w fun e w' => e = .returned (.int .i64 n) ∧ Below w.heap.size w w' := by
  go_enter Try.func37, Try.ntmps37
  go_wp2_with fail
  go_ret
  exact ⟨rfl, below_alloc _ _⟩
theorem dual_f (b off n c : Nat) (B O C : Nat → Nat) (B2 O2 C2 : Nat → Nat → Nat) (f : Nat → Nat → Nat → Int) (i : Nat) (w : World) (h : CubeAt w b off n B O C B2 O2 C2 f) (hn : n ≤ 1000) (hi : i < n) (hf : ∀ j, j < n → 0 ≤ f i j 0) :
    Calls Try.prog 125 #[.agg #[.slice (some ⟨b, off, none⟩) n c], .int .i64 i] w fun e w' => e = .returned (.int .i64 (dualOf n f i)) ∧ Below w.heap.size w w' := by
  have H := Lib.hid h
  have HF := Lib.hid hf
  clear h hf
  go_enter Try.func125, Try.ntmps125
  go_wp2_with fail
  refine (rank_f _ n c _).mono ?_
  rintro e w1 ⟨rfl, hb1⟩
  have HB1 := Lib.hid hb1
  clear hb1
  go_wp2_with fail
  go_loopw [5, 10] (fun d x wr => ∃ j : Nat, j ≤ n ∧ x = .int .i64 j ∧ Below (w.heap.size + 1) (w.alloc (.cells #[.slice (some ⟨b, off, none⟩) n c] 29)) wr ∧ ((d = .int .i64 (-1) ∧ ∀ j', j' < j → f i j' 0 = 0) ∨ ∃ q : Nat, q < j ∧ d = .int .i64 q ∧ f i q 0 = 1 ∧ ∀ j', j' < j → j' ≠ q → f i j' 0 = 0)) (fun _ x _ => n - (intOf x).toNat)
  case atStart => exact ⟨0, by omega, rfl, by simpa using HB1.out, Or.inl ⟨rfl, fun j hj => absurd hj (by omega)⟩⟩
  case round =>
    obtain ⟨j, hj, rfl, hbl, hd⟩ := hrel
    have HB := Lib.hid hbl
    have HT := Lib.hid (show Below w.heap.size w wr from (below_alloc w _).trans (hbl.mono (by omega)))
    clear hbl
    by_cases hjn : j < n
    · have HC := Lib.hid (H.out.below HT.out)
      have e0 : wr.cell? ⟨w.heap.size, 0, none⟩ = some (.slice (some ⟨b, off, none⟩) n c) := by
        rw [HB.out.cell (p := ⟨w.heap.size, 0, none⟩) (by simp)]; exact cell_box _ _ _
      have e1 := (HC.out.row i hi).1
      have e2 := (HC.out.col i j hi hjn).1
      have e3 : wr.cell? ⟨B2 i j, O2 i j, none⟩ = some (.int .i64 (f i j 0)) := by simpa using HC.out.num i j 0 hi hjn (by omega)
      have hx0 := HF.out j hjn
      obtain ⟨x, hx⟩ : ∃ x, x = f i j 0 := ⟨_, rfl⟩
      rw [← hx] at e3 hx0
      have HX := Lib.hid hx
      clear hx
      generalize B i = b1 at *
      generalize O i = o1 at *
      generalize C i = c1 at *
      generalize B2 i j = b2 at *
      generalize O2 i j = o2 at *
      generalize C2 i j = c2 at *
      rcases hd with ⟨rfl, hz⟩ | ⟨q, hq, rfl, hq1, hz⟩
      · have HZ := Lib.hid hz
        clear hz
        by_cases x0 : x = 0
        · subst x0
          have HN := Lib.hid (show ∀ j', j' < j + 1 → f i j' 0 = 0 from fun j' hj' => by
            by_cases e : j' = j
            · rw [e, HX.out]
            · exact HZ.out j' (by omega))
          go_wp2_with fail
          exact ⟨⟨j + 1, by omega, by go_num, HB.out, Or.inl ⟨rfl, HN.out⟩⟩, by simp [intOf]; omega⟩
        · by_cases x1 : x = 1
          · subst x1
            have HN := Lib.hid (show ∀ j', j' < j + 1 → j' ≠ j → f i j' 0 = 0 from fun j' hj' hne => HZ.out j' (by omega))
            clear x0
            go_wp2_with fail
            exact ⟨⟨j + 1, by omega, by go_num, HB.out, Or.inr ⟨j, by omega, rfl, HX.out.symm, HN.out⟩⟩, by simp [intOf]; omega⟩
          · have hd1 : decide (1 < x) = true := by simp; omega
            have HR := Lib.hid (dual_bad (f := f) (i := i) hjn (by rw [← HX.out]; exact x0) (Or.inl (by rw [← HX.out]; exact x1)))
            go_wp2_with fail
            go_ret
            exact ⟨ret_int HR.out.symm, HT.out⟩
      · have HZ := Lib.hid hz
        have HQ := Lib.hid hq1
        clear hz hq1
        by_cases x0 : x = 0
        · subst x0
          have HN := Lib.hid (show ∀ j', j' < j + 1 → j' ≠ q → f i j' 0 = 0 from fun j' hj' hne => by
            by_cases e : j' = j
            · rw [e, HX.out]
            · exact HZ.out j' (by omega) hne)
          go_wp2_with fail
          exact ⟨⟨j + 1, by omega, by go_num, HB.out, Or.inr ⟨q, by omega, rfl, HQ.out, HN.out⟩⟩, by simp [intOf]; omega⟩
        · have HR := Lib.hid (dual_bad (f := f) (i := i) hjn (by rw [← HX.out]; exact x0) (Or.inr ⟨q, by omega, by omega, by rw [HQ.out]; decide⟩))
          by_cases x1 : x = 1
          · subst x1
            have hd2 : decide (0 ≤ (q : Int)) = true := by simp
            clear x0
            go_wp2_with fail
            go_ret
            exact ⟨ret_int HR.out.symm, HT.out⟩
          · have hd1 : decide (1 < x) = true := by simp; omega
            go_wp2_with fail
            go_ret
            exact ⟨ret_int HR.out.symm, HT.out⟩
    · obtain rfl : j = n := by omega
      rcases hd with ⟨rfl, hz⟩ | ⟨q, hq, rfl, hq1, hz⟩
      · have HR := Lib.hid (dual_zero (n := j) hz)
        clear hz
        go_wp2_with fail
        go_ret
        exact ⟨ret_int HR.out.symm, HT.out⟩
      · have HR := Lib.hid (dual_eq (n := j) hq ⟨hq1, hz⟩)
        clear hz hq1
        go_wp2_with fail
        go_ret
        exact ⟨ret_int HR.out.symm, HT.out⟩
theorem duals_f (b off n c : Nat) (B O C : Nat → Nat) (B2 O2 C2 : Nat → Nat → Nat) (f : Nat → Nat → Nat → Int) (w : World) (h : CubeAt w b off n B O C B2 O2 C2 f) (hn : n ≤ 1000) (hf : ∀ i j, i < n → j < n → 0 ≤ f i j 0) :
    Calls Try.prog 124 #[.agg #[.slice (some ⟨b, off, none⟩) n c]] w fun e w' => ∃ g, e = .returned (.slice (some ⟨g, 0, none⟩) n n) ∧ w.heap.size ≤ g ∧ RowI w' 2 g n (fun i => dualOf n f i) ∧ Below w.heap.size w w' := by
  have hmk := run_make_row' (P := Try.prog) 26 2 (.int .i64 0) 8 Try.underlying26 infoI64 rfl .i64 .i64 n (by omega) (by omega)
  have H := Lib.hid h
  have HF := Lib.hid hf
  clear h hf
  go_enter Try.func124, Try.ntmps124
  go_wp2_with fail
  refine (rank_f _ n c _).mono ?_
  rintro e w1 ⟨rfl, hb1⟩
  have HB1 := Lib.hid (show Below (w.heap.size + 1) (w.alloc (.cells #[.slice (some ⟨b, off, none⟩) n c] 29)) w1 by simpa using hb1)
  have e0 : w1.cell? ⟨w.heap.size, 0, none⟩ = some (.slice (some ⟨b, off, none⟩) n c) := by
    rw [HB1.out.cell (p := ⟨w.heap.size, 0, none⟩) (by simp)]; exact cell_box _ _ _
  have hs1 : w.heap.size < w1.heap.size := by have := HB1.out.size; simp at this; omega
  clear hb1
  have e0' := World.cell?_alloc_lt w1 (.cells (madeCells #[.int .i64 0] n) 2) ⟨w.heap.size, 0, none⟩ hs1
  rw [e0] at e0'
  go_wp2_with fail
  refine (rank_f _ n c _).mono ?_
  rintro e w2 ⟨rfl, hb2⟩
  have Hmk := Lib.hid hmk
  have HB2 := Lib.hid hb2
  clear hmk hb2 e0'
  go_wp2_with fail
  go_loopw [10] (fun x wr => ∃ j : Nat, j ≤ n ∧ x = .int .i64 j ∧ Below w1.heap.size w1 wr ∧ RowI wr 2 w1.heap.size n (fun i => if i < j then dualOf n f i else 0)) (fun x _ => n - (intOf x).toNat)
  case atStart => exact ⟨0, by omega, rfl, (below_alloc w1 _).trans (HB2.out.mono (by simp)), RowB.below ((RowB_of_rowIs (World.rowIs_made w1 (.int .i64 0) n 2)).congr (fun j _ => rfl)) HB2.out (by simp)⟩
  case round =>
    obtain ⟨j, hj, rfl, hbl, hrow⟩ := hrel
    have HB := Lib.hid hbl
    have HR := Lib.hid hrow
    have HT := Lib.hid (show Below w.heap.size w wr from ((below_alloc w _).trans (HB1.out.mono (by omega))).trans (hbl.mono (by omega)))
    clear hbl hrow
    by_cases hjn : j < n
    · have HC := Lib.hid (H.out.below HT.out)
      have e1 : wr.cell? ⟨w.heap.size, 0, none⟩ = some (.slice (some ⟨b, off, none⟩) n c) := by
        rw [HB.out.cell (p := ⟨w.heap.size, 0, none⟩) hs1]; exact e0
      go_wp2_with fail
      refine (dual_f b off n c B O C B2 O2 C2 f j _ HC.out hn hjn (fun k hk => HF.out j k hjn hk)).mono ?_
      rintro e w3 ⟨rfl, hb3⟩
      have HR3 := Lib.hid (show RowI w3 2 w1.heap.size n _ from RowB.below HR.out hb3 (RowB.lt HR.out))
      have HB3 := Lib.hid (HB.out.trans (hb3.mono HB.out.size))
      clear hb3 e1
      have hcd := RowB.cell HR3.out hjn
      have hfd := RowB.frozen HR3.out j
      go_wp2_with fail
      refine ⟨⟨j + 1, by omega, by go_num, HB3.out.setCell (Nat.le_refl _) _, (RowI.set HR3.out j (dualOf n f j)).congr (fun k hk => ?_)⟩, by simp [intOf]; omega⟩
      by_cases e : k = j
      · simp [e]
      · simp only [if_neg e]
        by_cases e' : k < j
        · rw [if_pos e', if_pos (by omega)]
        · rw [if_neg e', if_neg (by omega)]
    · obtain rfl : j = n := by omega
      go_wp2_with fail
      go_ret
      exact ⟨w1.heap.size, rfl, by omega, HR.out.congr (fun k hk => by rw [if_pos hk]), HT.out⟩
/-- what a search for a fault gives: a list of its own, or no list -/
def FltRes (w : World) (l : List Int) (e : Ending) (w' : World) : Prop :=
  (l = [] ∧ e = .returned (.slice none 0 0) ∧ Below w.heap.size w w') ∨ (l ≠ [] ∧ ∃ g c, e = .returned (.slice (some ⟨g, 0, none⟩) l.length c) ∧ w.heap.size ≤ g ∧ RowI w' 2 g l.length (fun j => l.getD j 0) ∧ Below w.heap.size w w')
theorem row_box (w : World) (l : List Int) (t : TypeId) : RowI (w.alloc (.cells (l.map fun x => Value.int .i64 x).toArray t)) t w.heap.size l.length (fun j => l.getD j 0) := by
  refine ⟨_, heap_alloc_new w _, fun i hi => ?_⟩
  simp [hi]
theorem fltRes_lit {w w' : World} {l : List Int} (h0 : l ≠ []) (hb : Below w.heap.size w w') :
    FltRes w l (.returned (.slice (some ⟨w'.heap.size, 0, none⟩) l.length l.length)) (w'.alloc (.cells (l.map fun x => Value.int .i64 x).toArray 2)) :=
  Or.inr ⟨h0, _, _, rfl, hb.size, row_box w' l _, hb.alloc hb.size _⟩
theorem fltRes_none {w w' : World} {l : List Int} (h0 : l = []) (hb : Below w.heap.size w w') : FltRes w l (.returned (.slice none 0 0)) w' := Or.inl ⟨h0, rfl, hb⟩
theorem unitFault_f (b off n c : Nat) (B O C : Nat → Nat) (B2 O2 C2 : Nat → Nat → Nat) (f : Nat → Nat → Nat → Int) (w : World) (h : CubeAt w b off n B O C B2 O2 C2 f) (hn : n ≤ 1000) (h0 : 0 < n) :
    Calls Try.prog 93 #[.agg #[.slice (some ⟨b, off, none⟩) n c]] w (FltRes w (fltU n f)) := by
  have H := Lib.hid h
  clear h
  go_enter Try.func93, Try.ntmps93
  go_wp2_with fail
  refine (rank_f _ n c _).mono ?_
  rintro e w1 ⟨rfl, hb1⟩
  have HB1 := Lib.hid (show Below (w.heap.size + 1) (w.alloc (.cells #[.slice (some ⟨b, off, none⟩) n c] 29)) w1 by simpa using hb1)
  clear hb1
  go_wp2_with fail
  go_loopw [8] (fun x wr => ∃ i : Nat, i ≤ n ∧ x = .int .i64 i ∧ Below (w.heap.size + 1) (w.alloc (.cells #[.slice (some ⟨b, off, none⟩) n c] 29)) wr ∧ ∀ i', i' < i → ∀ k', k' < n → ub f i' k' = false) (fun x _ => n - (intOf x).toNat)
  case atStart => exact ⟨0, by omega, rfl, HB1.out, fun i hi => absurd hi (by omega)⟩
  case round =>
    obtain ⟨i, hi, rfl, hbl, hall⟩ := hrel
    obtain ⟨wo, hwo⟩ : ∃ x, x = wr := ⟨_, rfl⟩
    subst hwo
    have HB := Lib.hid hbl
    have HA := Lib.hid hall
    have HT := Lib.hid (show Below w.heap.size w wo from (below_alloc w _).trans (hbl.mono (by omega)))
    clear hbl hall
    by_cases hin : i < n
    · have e0 : wo.cell? ⟨w.heap.size, 0, none⟩ = some (.slice (some ⟨b, off, none⟩) n c) := by
        rw [HB.out.cell (p := ⟨w.heap.size, 0, none⟩) (by simp)]; exact cell_box _ _ _
      go_wp2_with fail
      refine (rank_f _ n c _).mono ?_
      rintro e w2 ⟨rfl, hb2⟩
      have HB2 := Lib.hid (HB.out.trans (hb2.mono (by have := HB.out.size; simp at this; omega)))
      clear hb2 e0
      go_wp2_with fail
      go_loopw [13] (fun x wr => ∃ k : Nat, k ≤ n ∧ x = .int .i64 k ∧ Below (w.heap.size + 1) (w.alloc (.cells #[.slice (some ⟨b, off, none⟩) n c] 29)) wr ∧ ∀ k', k' < k → ub f i k' = false) (fun x _ => n - (intOf x).toNat)
      case atStart => exact ⟨0, by omega, rfl, HB2.out, fun i hi => absurd hi (by omega)⟩
      case round =>
        obtain ⟨k, hk, rfl, hbl3, hall3⟩ := hrel
        have HB3 := Lib.hid hbl3
        have HA3 := Lib.hid hall3
        have HT3 := Lib.hid (show Below w.heap.size w wr from (below_alloc w _).trans (hbl3.mono (by omega)))
        clear hbl3 hall3
        by_cases hkn : k < n
        · have HC := Lib.hid (H.out.below HT3.out)
          have e0 : wr.cell? ⟨w.heap.size, 0, none⟩ = some (.slice (some ⟨b, off, none⟩) n c) := by
            rw [HB3.out.cell (p := ⟨w.heap.size, 0, none⟩) (by simp)]; exact cell_box _ _ _
          have e1 : wr.cell? ⟨b, off, none⟩ = some (.slice (some ⟨B 0, O 0, none⟩) n (C 0)) := by simpa using (HC.out.row 0 h0).1
          have e2 := (HC.out.col 0 i h0 hin).1
          have e3 := HC.out.num 0 i k h0 hin hkn
          have e4 := (HC.out.row i hin).1
          have e5 : wr.cell? ⟨B i, O i, none⟩ = some (.slice (some ⟨B2 i 0, O2 i 0, none⟩) n (C2 i 0)) := by simpa using (HC.out.col i 0 hin h0).1
          have e6 := HC.out.num i 0 k hin h0 hkn
          obtain ⟨x, hx⟩ : ∃ x, x = f 0 i k := ⟨_, rfl⟩
          obtain ⟨y, hy⟩ : ∃ x, x = f i 0 k := ⟨_, rfl⟩
          rw [← hx] at e3
          rw [← hy] at e6
          have HX := Lib.hid hx
          have HY := Lib.hid hy
          clear hx hy
          generalize B 0 = b1 at *
          generalize O 0 = o1 at *
          generalize C 0 = c1 at *
          generalize B2 0 i = b2 at *
          generalize O2 0 i = o2 at *
          generalize C2 0 i = c2 at *
          generalize B i = b3 at *
          generalize O i = o3 at *
          generalize C i = c3 at *
          generalize B2 i 0 = b4 at *
          generalize O2 i 0 = o4 at *
          generalize C2 i 0 = c4 at *
          by_cases ik : i = k
          · have hik : ((i : Int) == (k : Int)) = true := by simp; omega
            have HU := Lib.hid (show ub f i k = ((x != 1) || (y != 1)) by unfold ub; rw [if_pos ik, HX.out, HY.out])
            clear ik
            cases hp : (x != 1)
            · cases hq : (y != 1)
              · have HN := Lib.hid (show ∀ k', k' < k + 1 → ub f i k' = false from fun k' hk' => by
                    by_cases e : k' = k
                    · rw [e, HU.out, hp, hq]; rfl
                    · exact HA3.out k' (by omega))
                go_wp2_with fail
                exact ⟨⟨k + 1, by omega, by go_num, HB3.out, HN.out⟩, by simp [intOf]; omega⟩
              · skip
                have HR := Lib.hid (fltU_hit hin hkn (by rw [HU.out, hp, hq]; rfl) HA3.out HA.out)
                go_wp2_with fail
                go_ret
                rw [HR.out]
                exact fltRes_lit (l := [0, (i : Int), (k : Int)]) (by simp) HT3.out
            · skip
              have HR := Lib.hid (fltU_hit hin hkn (by rw [HU.out, hp]; exact Bool.true_or _) HA3.out HA.out)
              go_wp2_with fail
              go_ret
              rw [HR.out]
              exact fltRes_lit (l := [0, (i : Int), (k : Int)]) (by simp) HT3.out
          · have hik : ((i : Int) == (k : Int)) = false := by simp; omega
            have HU := Lib.hid (show ub f i k = ((x != 0) || (y != 0)) by unfold ub; rw [if_neg ik, HX.out, HY.out])
            clear ik
            cases hp : (x != 0)
            · cases hq : (y != 0)
              · have HN := Lib.hid (show ∀ k', k' < k + 1 → ub f i k' = false from fun k' hk' => by
                    by_cases e : k' = k
                    · rw [e, HU.out, hp, hq]; rfl
                    · exact HA3.out k' (by omega))
                go_wp2_with fail
                exact ⟨⟨k + 1, by omega, by go_num, HB3.out, HN.out⟩, by simp [intOf]; omega⟩
              · skip
                have HR := Lib.hid (fltU_hit hin hkn (by rw [HU.out, hp, hq]; rfl) HA3.out HA.out)
                go_wp2_with fail
                go_ret
                rw [HR.out]
                exact fltRes_lit (l := [0, (i : Int), (k : Int)]) (by simp) HT3.out
            · skip
              have HR := Lib.hid (fltU_hit hin hkn (by rw [HU.out, hp]; exact Bool.true_or _) HA3.out HA.out)
              go_wp2_with fail
              go_ret
              rw [HR.out]
              exact fltRes_lit (l := [0, (i : Int), (k : Int)]) (by simp) HT3.out
        · obtain rfl : k = n := by omega
          have HN := Lib.hid (show ∀ i', i' < i + 1 → ∀ k', k' < k → ub f i' k' = false from fun i' hi' => by
            by_cases e : i' = i
            · rw [e]; exact HA3.out
            · exact HA.out i' (by omega))
          go_wp2_with fail
          exact ⟨⟨i + 1, by omega, by go_num, HB3.out, HN.out⟩, by simp [intOf]; omega⟩
    · obtain rfl : i = n := by omega
      have HR := Lib.hid (fltU_none HA.out)
      go_wp2_with fail
      go_ret
      exact fltRes_none HR.out HT.out
theorem dualFault_f (b off n c : Nat) (B O C : Nat → Nat) (B2 O2 C2 : Nat → Nat → Nat) (f : Nat → Nat → Nat → Int) (w : World) (h : CubeAt w b off n B O C B2 O2 C2 f) (hn : n ≤ 1000) (hf : ∀ i j, i < n → j < n → 0 ≤ f i j 0) :
    Calls Try.prog 94 #[.agg #[.slice (some ⟨b, off, none⟩) n c]] w (FltRes w (fltD n f)) := by
  have H := Lib.hid h
  have HF := Lib.hid hf
  clear h hf
  go_enter Try.func94, Try.ntmps94
  go_wp2_with fail
  refine (duals_f b off n c B O C B2 O2 C2 f _ (H.out.below (below_alloc w _)) hn HF.out).mono ?_
  rintro e w1 ⟨g, rfl, hg, hr1, hb1⟩
  have HB1 := Lib.hid (show Below (w.heap.size + 1) (w.alloc (.cells #[.slice (some ⟨b, off, none⟩) n c] 29)) w1 by simpa using hb1)
  have HR1 := Lib.hid hr1
  clear hb1 hr1
  go_wp2_with fail
  go_loopw [8] (fun x wr => ∃ i : Nat, i ≤ n ∧ x = .int .i64 i ∧ Below w1.heap.size w1 wr ∧ ∀ i', i' < i → db n f i' = false) (fun x _ => n - (intOf x).toNat)
  case atStart => exact ⟨0, by omega, rfl, Below.refl _ _, fun i hi => absurd hi (by omega)⟩
  case round =>
    obtain ⟨i, hi, rfl, hbl, hall⟩ := hrel
    have HB := Lib.hid hbl
    have HA := Lib.hid hall
    have HT := Lib.hid (show Below w.heap.size w wr from ((below_alloc w _).trans (HB1.out.mono (by omega))).trans (hbl.mono (by have := HB1.out.size; simp at this; omega)))
    clear hbl hall
    by_cases hin : i < n
    · have HC := Lib.hid (H.out.below HT.out)
      have e0 : wr.cell? ⟨w.heap.size, 0, none⟩ = some (.slice (some ⟨b, off, none⟩) n c) := by
        rw [HB.out.cell (p := ⟨w.heap.size, 0, none⟩) (by have := HB1.out.size; simp at this; show w.heap.size < _; omega), HB1.out.cell (p := ⟨w.heap.size, 0, none⟩) (by simp)]; exact cell_box _ _ _
      have e1 : wr.cell? ⟨g, i, none⟩ = some (.int .i64 (dualOf n f i)) := RowB.cell (show RowB wr 2 g n _ from RowB.below HR1.out HB.out (RowB.lt HR1.out)) hin
      obtain ⟨d, hd⟩ : ∃ d, d = dualOf n f i := ⟨_, rfl⟩
      rw [← hd] at e1
      have HD := Lib.hid hd
      have hrg := dual_range n f i
      rw [← hd] at hrg
      clear hd
      by_cases hneg : d < 0
      · have hdn : decide (d < 0) = true := by simp; omega
        have HR := Lib.hid (fltD_hit hin (show db n f i = true by unfold db; rw [← HD.out, hdn]; rfl) HA.out)
        go_wp2_with fail
        go_ret
        rw [HR.out]
        exact fltRes_lit (l := [1, (i : Int)]) (by simp) HT.out
      · have hdn : decide (d < 0) = false := by simp; omega
        obtain ⟨q, rfl⟩ : ∃ q : Nat, d = q := ⟨d.toNat, by omega⟩
        have hqn : q < n := by omega
        have HDQ := Lib.hid (dual_f b off n c B O C B2 O2 C2 f q wr HC.out hn hqn (fun j hj => HF.out q j hqn hj))
        have HU := Lib.hid (show db n f i = (dualOf n f q != (i : Int)) by
          unfold db dn; rw [← HD.out, hdn]; simp)
        obtain ⟨d2, hd2⟩ : ∃ d, d = dualOf n f q := ⟨_, rfl⟩
        rw [← hd2] at HDQ HU
        clear hd2 hneg
        cases hp : (d2 != (i : Int))
        · have HN := Lib.hid (show ∀ i', i' < i + 1 → db n f i' = false from fun i' hi' => by
            by_cases e : i' = i
            · rw [e, HU.out, hp]
            · exact HA.out i' (by omega))
          go_wp2_with fail
          refine HDQ.out.mono ?_
          rintro e w3 ⟨rfl, hb3⟩
          have HB3 := Lib.hid (HB.out.trans (hb3.mono HB.out.size))
          clear hb3
          go_wp2_with fail
          exact ⟨⟨i + 1, by omega, by go_num, HB3.out, HN.out⟩, by simp [intOf]; omega⟩
        · have HR := Lib.hid (fltD_hit hin (show db n f i = true by rw [HU.out, hp]) HA.out)
          go_wp2_with fail
          refine HDQ.out.mono ?_
          rintro e w3 ⟨rfl, hb3⟩
          have HT3 := Lib.hid (HT.out.trans (hb3.mono HT.out.size))
          clear hb3
          go_wp2_with fail
          go_ret
          rw [HR.out]
          exact fltRes_lit (l := [1, (i : Int)]) (by simp) HT3.out
    · obtain rfl : i = n := by omega
      have HR := Lib.hid (fltD_none HA.out)
      go_wp2_with fail
      go_ret
      exact fltRes_none HR.out HT.out
end Go.Proofs.Ytmdmojklagmmiaa
