/- Merged: EnA, EnB, EnC. -/
import Derived.Test.YtmdmojklagmmiaaLst
import Derived.Test.YtmdmojklagmmiaaEnM
import Derived.Lib.MinMax
import Derived.Laws.ResultCell
import Derived.Laws.Tables
import Derived.Laws.CopyOwn
/- All small rings: tables of the program. -/
namespace Go.Proofs.Ytmdmojklagmmiaa
open Go.RowKit
set_option linter.unusedSimpArgs false
set_option linter.unusedVariables false
theorem copied1_f (p b off n c : Nat) (B O C : Nat → Nat) (B2 O2 C2 : Nat → Nat → Nat) (f : Nat → Nat → Nat → Int) (i j k : Nat) (w : World) (h : CubeAt w b off n B O C B2 O2 C2 f) (hp : w.cell? ⟨p, 0, none⟩ = some (.slice (some ⟨b, off, none⟩) n c)) (hi : i < n) (hj : j < n) (hk : k < n) :
    Calls Try.prog 133 #[.int .i64 i, .int .i64 j, .int .i64 k, .pointer (some ⟨p, 0, none⟩)] w fun e w' => e = .returned (.int .i64 (f i j k)) ∧ w = w' := by
  have e1 := (h.row i hi).1
  have e2 := (h.col i j hi hj).1
  have e3 := h.num i j k hi hj hk
  clear h
  generalize B i = b1 at *
  generalize O i = o1 at *
  generalize C i = c1 at *
  generalize B2 i j = b2 at *
  generalize O2 i j = o2 at *
  generalize C2 i j = c2 at *
  generalize f i j k = x at *
  go_enter Try.func133, Try.ntmps133
  go_wp2_with fail
  go_ret
  exact ⟨rfl, rfl⟩
set_option maxHeartbeats 8000000 in
set_option maxRecDepth 100000 in
theorem ringOf_cop_f (p : Nat) (n : Nat) (g : Nat → Nat → Nat → Int) (w : World) (hn : n ≤ 1000) (hcall : ∀ u i j k, Below w.heap.size w u → i < n → j < n → k < n → Calls Try.prog 133 #[.int .i64 (i : Nat), .int .i64 (j : Nat), .int .i64 (k : Nat), .pointer (some ⟨p, 0, none⟩)] u fun e w' => e = .returned (.int .i64 (g i j k)) ∧ u = w') :
    Calls Try.prog 117 #[.int .i64 n, .func (.func 133) #[] #[.pointer (some ⟨p, 0, none⟩)]] w fun e w' => ∃ b, e = .returned (.agg #[.slice (some ⟨b, 0, none⟩) n n]) ∧ CubO w' w.heap.size w'.heap.size b n (fun _ => n) (fun _ _ => n) g ∧ Below w.heap.size w w' := by
  have hmT := run_make_row' (P := Try.prog) 22 51 (.slice none 0 0) 24 Try.underlying22 infoTab rfl .i64 .i64 n (by omega) (by omega)
  have hmM := run_make_row' (P := Try.prog) 51 26 (.slice none 0 0) 24 Try.underlying51 infoRow rfl .i64 .i64 n (by omega) (by omega)
  have hmk := run_make_row' (P := Try.prog) 26 2 (.int .i64 0) 8 Try.underlying26 infoI64 rfl .i64 .i64 n (by omega) (by omega)
  have HX := Lib.hid hcall
  clear hcall
  obtain ⟨wS, hwS⟩ : ∃ x, x = w.alloc (.cells #[.slice none 0 0] 29) := ⟨_, rfl⟩
  have HS := Lib.hid (show Below w.heap.size w wS by rw [hwS]; exact below_alloc w _)
  have HSz := Lib.hid (show wS.heap.size = w.heap.size + 1 by rw [hwS]; simp)
  have HSr := Lib.hid (show RowB wS 29 w.heap.size 1 (fun _ => .slice none 0 0) by rw [hwS]; exact row_one _ _ _)
  have HSe := Lib.hid hwS
  clear hwS
  go_enter Try.func117, Try.ntmps117
  go_wp2_with fail
  rw [← HSe.out]
  go_loopw [12] (fun x wr => ∃ (i : Nat) (B : Nat → Nat) (G : Nat → Nat → Nat), i ≤ n ∧ x = .int .i64 i ∧ CubP wS wr n i (fun _ => n) B G g) (fun x _ => n - (intOf x).toNat)
  case atStart => exact ⟨0, fun _ => 0, fun _ _ => 0, by omega, rfl, by rw [HSz.out] at *; exact CubP.start wS n _ _ _ _⟩
  case round =>
    obtain ⟨i, B0, G0, hi, rfl, hcb⟩ := hrel
    have HC := Lib.hid hcb
    clear hcb
    by_cases hin : i < n
    · have e1 := RowB.cell (HC.out.outer.alloc (.cells (madeCells #[.slice none 0 0] n) 26)) hin
      have e2 := RowB.frozen (HC.out.outer.alloc (.cells (madeCells #[.slice none 0 0] n) 26)) i
      simp only [if_neg (show ¬ i < i by omega)] at e1
      rw [HSz.out] at e1 e2
      have HN := Lib.hid (HC.out.newTab)
      rw [HSz.out] at HN
      clear HC
      go_wp2_with fail
      obtain ⟨w1, hw1⟩ : ∃ x, x = (wr.alloc (.cells (madeCells #[.slice none 0 0] n) 26)).setCell ⟨w.heap.size + 1, i, none⟩ (.slice (some ⟨wr.heap.size, 0, none⟩) n n) := ⟨_, rfl⟩
      rw [← hw1] at HN ⊢
      clear hw1 e1 e2
      go_loopw [21] (fun x wr => ∃ (j : Nat) (B : Nat → Nat) (G : Nat → Nat → Nat), j ≤ n ∧ x = .int .i64 j ∧ CubP wS wr n (i + 1) (fun a => if a = i then j else n) B G g) (fun x _ => n - (intOf x).toNat)
      case atStart => exact ⟨0, _, _, by omega, rfl, HN.out⟩
      case round =>
        obtain ⟨j, B1, G1, hj, rfl, hcb⟩ := hrel
        have HC := Lib.hid hcb
        clear hcb
        by_cases hjn : j < n
        · have HD := Lib.hid (HC.out.cong (g := fun a b c => if a = i ∧ b = j then 0 else g a b c) (q' := fun a => if a = i then j else n) (fun _ _ => rfl) (fun a b c ha hb hc => by
            rw [if_neg]; rintro ⟨rfl, rfl⟩; simp at hb))
          have HN := Lib.hid (HD.out.newRow (i0 := i) (by omega) (fun k => by simp))
          simp only [if_true] at HN
          have e1 := RowB.cell HC.out.outer hin
          have e3 := RowB.cell (HC.out.outer.alloc (.cells (madeCells #[.int .i64 0] n) 2)) hin
          have ht := (HC.out.tab i (by omega)).2
          have e4 := RowB.cell ht hjn
          have e5 := RowB.frozen ht j
          have e6 := RowB.cell (ht.alloc (.cells (madeCells #[.int .i64 0] n) 2)) hjn
          have e7 := RowB.frozen (ht.alloc (.cells (madeCells #[.int .i64 0] n) 2)) j
          simp only [if_pos (show i < i + 1 by omega), if_true, if_neg (show ¬ j < j by omega)] at e1 e3 e4 e6
          rw [HSz.out] at e1 e3
          clear ht
          obtain ⟨gi, hgi⟩ : ∃ x, x = B1 i := ⟨_, rfl⟩
          rw [← hgi] at e1 e3 e4 e5 e6 e7 HN
          have HG := Lib.hid hgi
          clear hgi HD
          go_wp2_with fail
          go_region
          obtain ⟨w2, hw2⟩ : ∃ x, x = ((wr.alloc (.cells (madeCells #[.int .i64 0] n) 2)).setCell ⟨gi, j, none⟩ (.slice (some ⟨wr.heap.size, 0, none⟩) n n)).drew := ⟨_, rfl⟩
          have HN := Lib.hid (show CubP wS w2 n (i + 1) _ _ _ _ by rw [hw2]; exact HN.out.kept ((Below.refl _ _).drew))
          rw [← hw2]
          clear hw2 e1 e3 e4 e5 e6 e7 HC HG
          go_wp2_with fail
          go_loopw [33] (fun x wr => ∃ (k : Nat) (B : Nat → Nat) (G : Nat → Nat → Nat), k ≤ n ∧ x = .int .i64 k ∧ CubP wS wr n (i + 1) (fun a => if a = i then j + 1 else n) B G (fun a b c => if a = i ∧ b = j ∧ k ≤ c then 0 else g a b c)) (fun x _ => n - (intOf x).toNat)
          case atStart => exact ⟨0, _, _, by omega, rfl, HN.out.cong (fun a ha => by by_cases e : a = i <;> simp [e]) (fun a b c _ _ _ => by simp)⟩
          case round =>
            obtain ⟨k, B2, G2, hk, rfl, hcb⟩ := hrel
            have HC := Lib.hid hcb
            clear hcb
            by_cases hkn : k < n
            · have e1 := RowB.cell HC.out.outer hin
              have ht := (HC.out.tab i (by omega)).2
              have e4 := RowB.cell ht hjn
              have hr := (HC.out.row i j (by omega) (by simp)).2
              have e5 : wr.cell? ⟨G2 i j, k, none⟩ = some (.int .i64 0) := by
                have := RowB.cell (show RowB wr 2 (G2 i j) n _ from hr) hkn
                simpa using this
              have e6 := RowB.frozen (show RowB wr 2 (G2 i j) n _ from hr) k
              simp only [if_pos (show i < i + 1 by omega), if_true, if_pos (show j < j + 1 by omega)] at e1 e4
              rw [HSz.out] at e1
              have HN := Lib.hid (HC.out.setNum (i0 := i) (j0 := j) (by omega) (by simp) k (g i j k))
              clear ht hr
              obtain ⟨gi, hgi⟩ : ∃ x, x = B2 i := ⟨_, rfl⟩
              obtain ⟨gj, hgj⟩ : ∃ x, x = G2 i j := ⟨_, rfl⟩
              rw [← hgi] at e1 e4
              rw [← hgj] at e4 e5 e6 HN
              clear hgi hgj
              have HY := Lib.hid (HX.out wr.drew i j k (HS.out.trans (HC.out.bel.mono HS.out.size)).drew hin hjn hkn)
              go_wp2_with fail
              refine wp_region_any (by kernel_rfl) ?_
              refine wpAny_still_tail 0 14 (by kernel_rfl) (by kernel_rfl) ?_
              simp only [List.take_succ_cons, List.take_zero, List.drop_succ_cons, List.drop_zero]
              repeat still_step
              refine wpStill_step (fun K hK => ?_)
              go_simp
              refine ⟨_, HY.out.mono (fun e w' h => ⟨h.1, h.2.symm⟩), hK _ ?_⟩
              clear hK K
              repeat still_step
              refine wpStill_nil ?_
              change wpList _ _ _ _ _ wr.drew
              obtain ⟨wq, hwq⟩ : ∃ x, x = wr.drew := ⟨_, rfl⟩
              have HN := Lib.hid (show CubP wS (wq.setCell ⟨gj, k, none⟩ (.int .i64 (g i j k))) n (i + 1) _ B2 G2 _ by
                rw [hwq]; exact HN.out.kept ((Below.refl _ _).drew))
              have d5 : wq.cell? ⟨gj, k, none⟩ = some (.int .i64 0) := by rw [hwq]; exact e5
              have d6 : wq.frozen? ⟨gj, k, none⟩ = false := by rw [hwq]; exact e6
              rw [← hwq]
              clear hwq e1 e4 e5 e6 HC HY
              go_wp2_with fail
              exact ⟨⟨k + 1, B2, G2, by omega, by go_num, HN.out.cong (fun _ _ => rfl) (fun a b c ha hb hc => by
                by_cases e : a = i ∧ b = j
                · obtain ⟨rfl, rfl⟩ := e
                  by_cases e2 : c = k
                  · subst e2; simp; omega
                  · simp only [true_and, if_neg (show ¬ c = k from e2)]
                    by_cases e3 : k ≤ c
                    · rw [if_pos e3, if_pos (by omega)]
                    · rw [if_neg e3, if_neg (by omega)]
                · rw [if_neg (fun h => e ⟨h.1, h.2.1⟩), if_neg (fun h => e ⟨h.1, h.2.1⟩), if_neg (fun h => e ⟨h.1, h.2.1⟩)])⟩, by simp [intOf]; omega⟩
            · obtain rfl : k = n := by omega
              go_wp2_with fail
              exact ⟨⟨j + 1, B2, G2, by omega, by go_num, HC.out.cong (fun a ha => by by_cases e : a = i <;> simp [e]) (fun a b c ha hb hc => by
                rw [if_neg (fun h => by omega)])⟩, by simp [intOf]; omega⟩
        · obtain rfl : j = n := by omega
          go_wp2_with fail
          exact ⟨⟨i + 1, B1, G1, by omega, by go_num, HC.out.cong (fun a ha => by by_cases e : a = i <;> simp [e]) (fun _ _ _ _ _ _ => rfl)⟩, by simp [intOf]; omega⟩
    · obtain rfl : i = n := by omega
      have HD := Lib.hid (HC.out.done (fun _ _ => rfl) (by unfold maxLen; omega))
      have hr := RowB.below HSr.out HC.out.bel (by rw [HSz.out]; omega)
      have e1 := RowB.cell hr (show 0 < 1 by omega)
      have e2 := RowB.frozen hr 0
      have e3 := RowB.cell (hr.set 0 (.slice (some ⟨w.heap.size + 1, 0, none⟩) i i)) (show 0 < 1 by omega)
      rw [if_pos rfl] at e3
      have HO := Lib.hid (show Only (fun q => q = w.heap.size) wr (wr.setCell ⟨w.heap.size, 0, none⟩ (.slice (some ⟨w.heap.size + 1, 0, none⟩) i i)) from (Only.refl (fun q => q = w.heap.size) wr).setCell (p := ⟨w.heap.size, 0, none⟩) rfl _)
      have HB := Lib.hid (HS.out.trans (HC.out.bel.mono HS.out.size))
      rw [HSz.out] at HD
      clear hr HC
      go_wp2_with fail
      refine bodyPost_ret (v := .agg #[.slice (some ⟨w.heap.size + 1, 0, none⟩) i i]) (by simp [results, Try.results117, go_sem, e3]) rfl ⟨w.heap.size + 1, rfl, ?_, ?_⟩
      · rw [HO.out.size]
        exact (HD.out.only HO.out (fun k hk h => by omega)).mono (by omega) (Nat.le_refl _)
      · exact HB.out.setCell (Nat.le_refl _) _
theorem copied_f (b off n c : Nat) (B O C : Nat → Nat) (B2 O2 C2 : Nat → Nat → Nat) (f : Nat → Nat → Nat → Int) (w : World) (h : CubeAt w b off n B O C B2 O2 C2 f) (hn : n ≤ 1000) :
    Calls Try.prog 112 #[.agg #[.slice (some ⟨b, off, none⟩) n c]] w fun e w' => ∃ b, e = .returned (.agg #[.slice (some ⟨b, 0, none⟩) n n]) ∧ CubO w' w.heap.size w'.heap.size b n (fun _ => n) (fun _ _ => n) f ∧ Below w.heap.size w w' := by
  have H := Lib.hid h
  clear h
  obtain ⟨W, hW⟩ : ∃ W, W = (w.alloc (.cells #[.slice (some ⟨b, off, none⟩) n c] 29)).alloc (.cells #[.slice none 0 0] 29) := ⟨_, rfl⟩
  have HW0 := Lib.hid (show Below w.heap.size w W by rw [hW]; exact ((Below.refl _ _).alloc (Nat.le_refl _) _).alloc (by simp) _)
  have HWs := Lib.hid (show W.heap.size = w.heap.size + 2 by rw [hW]; simp)
  have KW := Lib.hid (show W.cell? ⟨w.heap.size, 0, none⟩ = some (.slice (some ⟨b, off, none⟩) n c) by rw [hW, World.cell?_alloc_lt _ _ _ (by simp)]; exact cell_box _ _ _)
  have KR := Lib.hid (show RowB W 29 (w.heap.size + 1) 1 (fun _ => .slice none 0 0) by
    rw [hW]
    have := row_one (w.alloc (.cells #[.slice (some ⟨b, off, none⟩) n c] 29)) (.slice none 0 0) 29
    simpa using this)
  have HWe := Lib.hid hW
  clear hW
  go_enter Try.func112, Try.ntmps112
  go_wp2_with fail
  rw [← HWe.out]
  refine (rank_f _ n c _).mono ?_
  rintro e w1 ⟨rfl, hb1⟩
  have HB1 := Lib.hid hb1
  have HT := Lib.hid (HW0.out.trans (hb1.mono HW0.out.size))
  clear hb1
  have HX := Lib.hid (ringOf_cop_f w.heap.size n f w1 hn (fun u i j k hu hi hj hk => copied1_f w.heap.size b off n c B O C B2 O2 C2 f i j k u (H.out.below (HT.out.trans (hu.mono HT.out.size))) (((HB1.out.trans (hu.mono HB1.out.size)).cell (p := ⟨w.heap.size, 0, none⟩) (by rw [HWs.out]; show w.heap.size < _; omega)).trans KW.out) hi hj hk))
  go_wp2_with fail
  refine HX.out.mono ?_
  rintro e w2 ⟨b2, rfl, hc, hb2⟩
  have HC := Lib.hid hc
  have hr := RowB.below KR.out (HB1.out.trans (hb2.mono HB1.out.size)) (by rw [HWs.out]; omega)
  have e1 := RowB.cell hr (show 0 < 1 by omega)
  have e2 := RowB.frozen hr 0
  have e3 := RowB.cell (hr.set 0 (.slice (some ⟨b2, 0, none⟩) n n)) (show 0 < 1 by omega)
  rw [if_pos rfl] at e3
  have HO := Lib.hid (show Only (fun q => q = w.heap.size + 1) w2 (w2.setCell ⟨w.heap.size + 1, 0, none⟩ (.slice (some ⟨b2, 0, none⟩) n n)) from (Only.refl (fun q => q = w.heap.size + 1) w2).setCell (p := ⟨w.heap.size + 1, 0, none⟩) rfl _)
  have HB := Lib.hid (HT.out.trans (hb2.mono HT.out.size))
  have HL := Lib.hid (show w.heap.size + 2 ≤ w1.heap.size by have := HB1.out.size; have := HWs.out; omega)
  clear hr hc hb2 HX
  go_wp2_with fail
  refine bodyPost_ret (v := .agg #[.slice (some ⟨b2, 0, none⟩) n n]) (by simp [results, Try.results112, go_sem, e3]) rfl ⟨b2, rfl, ?_, ?_⟩
  · rw [HO.out.size]
    exact (HC.out.only HO.out (fun k hk h => by have := HL.out; omega)).mono (by have := HL.out; omega) (Nat.le_refl _)
  · exact HB.out.setCell (by show w.heap.size ≤ w.heap.size + 1; omega) _
end Go.Proofs.Ytmdmojklagmmiaa
/- All small rings: the open table of the program. -/
namespace Go.Proofs.Ytmdmojklagmmiaa
open Go.RowKit
set_option linter.unusedSimpArgs false
set_option linter.unusedVariables false
/-- the table that the duals alone tell, with all other places open -/
def opF (q : Nat) (d : List Nat) (i j k : Nat) : Int := if i = 0 ∧ j = k then 1 else if j = 0 ∧ i = k then 1 else if k = 0 ∧ j = d.getD i 0 then 1 else if inP q i j k then -1 else 0
set_option maxHeartbeats 4000000 in
theorem openRing1_f (p g n c : Nat) (d : List Nat) (i j k : Nat) (w : World) (hp : w.cell? ⟨p, 0, none⟩ = some (.slice (some ⟨g, 0, none⟩) n c)) (hr : RowI w 2 g n (lF d)) (hi : i < n) (hj : j < n) (hk : k < n) :
    Calls Try.prog 132 #[.int .i64 i, .int .i64 j, .int .i64 k, .pointer (some ⟨p, 0, none⟩)] w fun e w' => e = .returned (.int .i64 (opF (n - 1) d i j k)) ∧ w = w' := by
  have a1 : w.cell? ⟨g, i, none⟩ = some (.int .i64 ((d.getD i 0 : Nat) : Int)) := RowB.cell hr hi
  obtain ⟨x, hx⟩ : ∃ x, x = d.getD i 0 := ⟨_, rfl⟩
  have HP : inP (n - 1) i j k ↔ 1 ≤ i ∧ 1 ≤ j ∧ 1 ≤ k := by unfold inP; omega
  have HV := Lib.hid (show opF (n - 1) d i j k = if i = 0 ∧ j = k then 1 else if j = 0 ∧ i = k then 1 else if k = 0 ∧ j = x then 1 else if 1 ≤ i ∧ 1 ≤ j ∧ 1 ≤ k then -1 else 0 by unfold opF; rw [← hx]; simp only [HP])
  rw [← hx] at a1
  clear hr hx HP
  have a2 : i = 0 → w.cell? ⟨g, 0, none⟩ = some (.int .i64 (x : Int)) := fun e => by rw [← e]; exact a1
  have HA2 := Lib.hid a2
  clear a2
  have hm : ∀ (ts : Array TypeId) (t : TypeId) (u : World) (a b c : Int), (Builtin.min_ ts t #[.int .i64 a, .int .i64 b, .int .i64 c]).run Try.prog u = .ok (.int .i64 (min (min a b) c)) u := fun ts t u a b c => by
    have e1 : (if b < a then b else a) = min a b := by rw [Int.min_def]; split <;> split <;> omega
    have e2 : ∀ z, (if c < z then c else z) = min z c := fun z => by rw [Int.min_def]; split <;> split <;> omega
    simp [Builtin.min_, Builtin.min2, e1, e2]
  have hmz : (1 ≤ i ∧ 1 ≤ j ∧ 1 ≤ k → ¬ min (min (i : Int) j) k = 0) ∧ (¬ (1 ≤ i ∧ 1 ≤ j ∧ 1 ≤ k) → min (min (i : Int) j) k = 0) := by omega
  have HM := Lib.hid hmz
  clear hmz
  by_cases c1 : i = 0 <;> by_cases c2 : j = k <;> by_cases c3 : j = 0 <;> by_cases c4 : i = k <;> by_cases c5 : k = 0 <;> by_cases c6 : j = x
  all_goals first
    | (exfalso; omega)
    | (have hz := HM.out
       have hv := HV.out
       clear HM HV
       first
         | (rw [if_pos (by omega)] at hv)
         | (rw [if_neg (by omega), if_pos (by omega)] at hv)
         | (rw [if_neg (by omega), if_neg (by omega), if_pos (by omega)] at hv)
         | (rw [if_neg (by omega), if_neg (by omega), if_neg (by omega), if_pos (by omega)] at hv)
         | (rw [if_neg (by omega), if_neg (by omega), if_neg (by omega), if_neg (by omega)] at hv)
       have HV := Lib.hid hv
       clear hv
       have hmn : min (min (i : Int) (j : Int)) (k : Int) = 0 ∨ ¬ min (min (i : Int) (j : Int)) (k : Int) = 0 := by omega
       first
         | (have hz2 := hz.2 (by omega); clear hz hmn)
         | (have hz2 := hz.1 (by omega); clear hz hmn)
       first
         | (have a3 := HA2.out c1; clear HA2)
         | clear HA2
       go_enter Try.func132, Try.ntmps132
       go_wp2_with fail
       go_ret
       exact ⟨ret_int HV.out.symm, rfl⟩)
end Go.Proofs.Ytmdmojklagmmiaa
/- All small rings: the open ring; places that are turned. -/
namespace Go.Proofs.Ytmdmojklagmmiaa
open Go.RowKit
set_option linter.unusedSimpArgs false
set_option linter.unusedVariables false
set_option maxHeartbeats 8000000 in
set_option maxRecDepth 100000 in
theorem ringOf_opn_f (p : Nat) (n : Nat) (g : Nat → Nat → Nat → Int) (w : World) (hn : n ≤ 1000) (hcall : ∀ u i j k, Below w.heap.size w u → i < n → j < n → k < n → Calls Try.prog 132 #[.int .i64 (i : Nat), .int .i64 (j : Nat), .int .i64 (k : Nat), .pointer (some ⟨p, 0, none⟩)] u fun e w' => e = .returned (.int .i64 (g i j k)) ∧ u = w') :
    Calls Try.prog 117 #[.int .i64 n, .func (.func 132) #[] #[.pointer (some ⟨p, 0, none⟩)]] w fun e w' => ∃ b, e = .returned (.agg #[.slice (some ⟨b, 0, none⟩) n n]) ∧ CubO w' w.heap.size w'.heap.size b n (fun _ => n) (fun _ _ => n) g ∧ Below w.heap.size w w' := by
  have hmT := run_make_row' (P := Try.prog) 22 51 (.slice none 0 0) 24 Try.underlying22 infoTab rfl .i64 .i64 n (by omega) (by omega)
  have hmM := run_make_row' (P := Try.prog) 51 26 (.slice none 0 0) 24 Try.underlying51 infoRow rfl .i64 .i64 n (by omega) (by omega)
  have hmk := run_make_row' (P := Try.prog) 26 2 (.int .i64 0) 8 Try.underlying26 infoI64 rfl .i64 .i64 n (by omega) (by omega)
  have HX := Lib.hid hcall
  clear hcall
  obtain ⟨wS, hwS⟩ : ∃ x, x = w.alloc (.cells #[.slice none 0 0] 29) := ⟨_, rfl⟩
  have HS := Lib.hid (show Below w.heap.size w wS by rw [hwS]; exact below_alloc w _)
  have HSz := Lib.hid (show wS.heap.size = w.heap.size + 1 by rw [hwS]; simp)
  have HSr := Lib.hid (show RowB wS 29 w.heap.size 1 (fun _ => .slice none 0 0) by rw [hwS]; exact row_one _ _ _)
  have HSe := Lib.hid hwS
  clear hwS
  go_enter Try.func117, Try.ntmps117
  go_wp2_with fail
  rw [← HSe.out]
  go_loopw [12] (fun x wr => ∃ (i : Nat) (B : Nat → Nat) (G : Nat → Nat → Nat), i ≤ n ∧ x = .int .i64 i ∧ CubP wS wr n i (fun _ => n) B G g) (fun x _ => n - (intOf x).toNat)
  case atStart => exact ⟨0, fun _ => 0, fun _ _ => 0, by omega, rfl, by rw [HSz.out] at *; exact CubP.start wS n _ _ _ _⟩
  case round =>
    obtain ⟨i, B0, G0, hi, rfl, hcb⟩ := hrel
    have HC := Lib.hid hcb
    clear hcb
    by_cases hin : i < n
    · have e1 := RowB.cell (HC.out.outer.alloc (.cells (madeCells #[.slice none 0 0] n) 26)) hin
      have e2 := RowB.frozen (HC.out.outer.alloc (.cells (madeCells #[.slice none 0 0] n) 26)) i
      simp only [if_neg (show ¬ i < i by omega)] at e1
      rw [HSz.out] at e1 e2
      have HN := Lib.hid (HC.out.newTab)
      rw [HSz.out] at HN
      clear HC
      go_wp2_with fail
      obtain ⟨w1, hw1⟩ : ∃ x, x = (wr.alloc (.cells (madeCells #[.slice none 0 0] n) 26)).setCell ⟨w.heap.size + 1, i, none⟩ (.slice (some ⟨wr.heap.size, 0, none⟩) n n) := ⟨_, rfl⟩
      rw [← hw1] at HN ⊢
      clear hw1 e1 e2
      go_loopw [21] (fun x wr => ∃ (j : Nat) (B : Nat → Nat) (G : Nat → Nat → Nat), j ≤ n ∧ x = .int .i64 j ∧ CubP wS wr n (i + 1) (fun a => if a = i then j else n) B G g) (fun x _ => n - (intOf x).toNat)
      case atStart => exact ⟨0, _, _, by omega, rfl, HN.out⟩
      case round =>
        obtain ⟨j, B1, G1, hj, rfl, hcb⟩ := hrel
        have HC := Lib.hid hcb
        clear hcb
        by_cases hjn : j < n
        · have HD := Lib.hid (HC.out.cong (g := fun a b c => if a = i ∧ b = j then 0 else g a b c) (q' := fun a => if a = i then j else n) (fun _ _ => rfl) (fun a b c ha hb hc => by
            rw [if_neg]; rintro ⟨rfl, rfl⟩; simp at hb))
          have HN := Lib.hid (HD.out.newRow (i0 := i) (by omega) (fun k => by simp))
          simp only [if_true] at HN
          have e1 := RowB.cell HC.out.outer hin
          have e3 := RowB.cell (HC.out.outer.alloc (.cells (madeCells #[.int .i64 0] n) 2)) hin
          have ht := (HC.out.tab i (by omega)).2
          have e4 := RowB.cell ht hjn
          have e5 := RowB.frozen ht j
          have e6 := RowB.cell (ht.alloc (.cells (madeCells #[.int .i64 0] n) 2)) hjn
          have e7 := RowB.frozen (ht.alloc (.cells (madeCells #[.int .i64 0] n) 2)) j
          simp only [if_pos (show i < i + 1 by omega), if_true, if_neg (show ¬ j < j by omega)] at e1 e3 e4 e6
          rw [HSz.out] at e1 e3
          clear ht
          obtain ⟨gi, hgi⟩ : ∃ x, x = B1 i := ⟨_, rfl⟩
          rw [← hgi] at e1 e3 e4 e5 e6 e7 HN
          have HG := Lib.hid hgi
          clear hgi HD
          go_wp2_with fail
          go_region
          obtain ⟨w2, hw2⟩ : ∃ x, x = ((wr.alloc (.cells (madeCells #[.int .i64 0] n) 2)).setCell ⟨gi, j, none⟩ (.slice (some ⟨wr.heap.size, 0, none⟩) n n)).drew := ⟨_, rfl⟩
          have HN := Lib.hid (show CubP wS w2 n (i + 1) _ _ _ _ by rw [hw2]; exact HN.out.kept ((Below.refl _ _).drew))
          rw [← hw2]
          clear hw2 e1 e3 e4 e5 e6 e7 HC HG
          go_wp2_with fail
          go_loopw [33] (fun x wr => ∃ (k : Nat) (B : Nat → Nat) (G : Nat → Nat → Nat), k ≤ n ∧ x = .int .i64 k ∧ CubP wS wr n (i + 1) (fun a => if a = i then j + 1 else n) B G (fun a b c => if a = i ∧ b = j ∧ k ≤ c then 0 else g a b c)) (fun x _ => n - (intOf x).toNat)
          case atStart => exact ⟨0, _, _, by omega, rfl, HN.out.cong (fun a ha => by by_cases e : a = i <;> simp [e]) (fun a b c _ _ _ => by simp)⟩
          case round =>
            obtain ⟨k, B2, G2, hk, rfl, hcb⟩ := hrel
            have HC := Lib.hid hcb
            clear hcb
            by_cases hkn : k < n
            · have e1 := RowB.cell HC.out.outer hin
              have ht := (HC.out.tab i (by omega)).2
              have e4 := RowB.cell ht hjn
              have hr := (HC.out.row i j (by omega) (by simp)).2
              have e5 : wr.cell? ⟨G2 i j, k, none⟩ = some (.int .i64 0) := by
                have := RowB.cell (show RowB wr 2 (G2 i j) n _ from hr) hkn
                simpa using this
              have e6 := RowB.frozen (show RowB wr 2 (G2 i j) n _ from hr) k
              simp only [if_pos (show i < i + 1 by omega), if_true, if_pos (show j < j + 1 by omega)] at e1 e4
              rw [HSz.out] at e1
              have HN := Lib.hid (HC.out.setNum (i0 := i) (j0 := j) (by omega) (by simp) k (g i j k))
              clear ht hr
              obtain ⟨gi, hgi⟩ : ∃ x, x = B2 i := ⟨_, rfl⟩
              obtain ⟨gj, hgj⟩ : ∃ x, x = G2 i j := ⟨_, rfl⟩
              rw [← hgi] at e1 e4
              rw [← hgj] at e4 e5 e6 HN
              clear hgi hgj
              have HY := Lib.hid (HX.out wr.drew i j k (HS.out.trans (HC.out.bel.mono HS.out.size)).drew hin hjn hkn)
              go_wp2_with fail
              refine wp_region_any (by kernel_rfl) ?_
              refine wpAny_still_tail 0 14 (by kernel_rfl) (by kernel_rfl) ?_
              simp only [List.take_succ_cons, List.take_zero, List.drop_succ_cons, List.drop_zero]
              repeat still_step
              refine wpStill_step (fun K hK => ?_)
              go_simp
              refine ⟨_, HY.out.mono (fun e w' h => ⟨h.1, h.2.symm⟩), hK _ ?_⟩
              clear hK K
              repeat still_step
              refine wpStill_nil ?_
              change wpList _ _ _ _ _ wr.drew
              obtain ⟨wq, hwq⟩ : ∃ x, x = wr.drew := ⟨_, rfl⟩
              have HN := Lib.hid (show CubP wS (wq.setCell ⟨gj, k, none⟩ (.int .i64 (g i j k))) n (i + 1) _ B2 G2 _ by
                rw [hwq]; exact HN.out.kept ((Below.refl _ _).drew))
              have d5 : wq.cell? ⟨gj, k, none⟩ = some (.int .i64 0) := by rw [hwq]; exact e5
              have d6 : wq.frozen? ⟨gj, k, none⟩ = false := by rw [hwq]; exact e6
              rw [← hwq]
              clear hwq e1 e4 e5 e6 HC HY
              go_wp2_with fail
              exact ⟨⟨k + 1, B2, G2, by omega, by go_num, HN.out.cong (fun _ _ => rfl) (fun a b c ha hb hc => by
                by_cases e : a = i ∧ b = j
                · obtain ⟨rfl, rfl⟩ := e
                  by_cases e2 : c = k
                  · subst e2; simp; omega
                  · simp only [true_and, if_neg (show ¬ c = k from e2)]
                    by_cases e3 : k ≤ c
                    · rw [if_pos e3, if_pos (by omega)]
                    · rw [if_neg e3, if_neg (by omega)]
                · rw [if_neg (fun h => e ⟨h.1, h.2.1⟩), if_neg (fun h => e ⟨h.1, h.2.1⟩), if_neg (fun h => e ⟨h.1, h.2.1⟩)])⟩, by simp [intOf]; omega⟩
            · obtain rfl : k = n := by omega
              go_wp2_with fail
              exact ⟨⟨j + 1, B2, G2, by omega, by go_num, HC.out.cong (fun a ha => by by_cases e : a = i <;> simp [e]) (fun a b c ha hb hc => by
                rw [if_neg (fun h => by omega)])⟩, by simp [intOf]; omega⟩
        · obtain rfl : j = n := by omega
          go_wp2_with fail
          exact ⟨⟨i + 1, B1, G1, by omega, by go_num, HC.out.cong (fun a ha => by by_cases e : a = i <;> simp [e]) (fun _ _ _ _ _ _ => rfl)⟩, by simp [intOf]; omega⟩
    · obtain rfl : i = n := by omega
      have HD := Lib.hid (HC.out.done (fun _ _ => rfl) (by unfold maxLen; omega))
      have hr := RowB.below HSr.out HC.out.bel (by rw [HSz.out]; omega)
      have e1 := RowB.cell hr (show 0 < 1 by omega)
      have e2 := RowB.frozen hr 0
      have e3 := RowB.cell (hr.set 0 (.slice (some ⟨w.heap.size + 1, 0, none⟩) i i)) (show 0 < 1 by omega)
      rw [if_pos rfl] at e3
      have HO := Lib.hid (show Only (fun q => q = w.heap.size) wr (wr.setCell ⟨w.heap.size, 0, none⟩ (.slice (some ⟨w.heap.size + 1, 0, none⟩) i i)) from (Only.refl (fun q => q = w.heap.size) wr).setCell (p := ⟨w.heap.size, 0, none⟩) rfl _)
      have HB := Lib.hid (HS.out.trans (HC.out.bel.mono HS.out.size))
      rw [HSz.out] at HD
      clear hr HC
      go_wp2_with fail
      refine bodyPost_ret (v := .agg #[.slice (some ⟨w.heap.size + 1, 0, none⟩) i i]) (by simp [results, Try.results117, go_sem, e3]) rfl ⟨w.heap.size + 1, rfl, ?_, ?_⟩
      · rw [HO.out.size]
        exact (HD.out.only HO.out (fun k hk h => by omega)).mono (by omega) (Nat.le_refl _)
      · exact HB.out.setCell (Nat.le_refl _) _
theorem openRing_f (g n c : Nat) (d : List Nat) (w : World) (hr : RowI w 2 g n (lF d)) (hn : n ≤ 1000) :
    Calls Try.prog 107 #[.slice (some ⟨g, 0, none⟩) n c] w fun e w' => ∃ b, e = .returned (.agg #[.slice (some ⟨b, 0, none⟩) n n]) ∧ CubO w' w.heap.size w'.heap.size b n (fun _ => n) (fun _ _ => n) (opF (n - 1) d) ∧ Below w.heap.size w w' := by
  have H := Lib.hid hr
  clear hr
  obtain ⟨W, hW⟩ : ∃ W, W = (w.alloc (.cells #[.slice (some ⟨g, 0, none⟩) n c] 26)).alloc (.cells #[.slice none 0 0] 29) := ⟨_, rfl⟩
  have HW0 := Lib.hid (show Below w.heap.size w W by rw [hW]; exact ((Below.refl _ _).alloc (Nat.le_refl _) _).alloc (by simp) _)
  have HWs := Lib.hid (show W.heap.size = w.heap.size + 2 by rw [hW]; simp)
  have KW := Lib.hid (show W.cell? ⟨w.heap.size, 0, none⟩ = some (.slice (some ⟨g, 0, none⟩) n c) by rw [hW, World.cell?_alloc_lt _ _ _ (by simp)]; exact cell_box _ _ _)
  have KR := Lib.hid (show RowB W 29 (w.heap.size + 1) 1 (fun _ => .slice none 0 0) by
    rw [hW]
    have := row_one (w.alloc (.cells #[.slice (some ⟨g, 0, none⟩) n c] 26)) (.slice none 0 0) 29
    simpa using this)
  have HWe := Lib.hid hW
  clear hW
  have HX := Lib.hid (ringOf_opn_f w.heap.size n (opF (n - 1) d) W hn (fun u i j k hu hi hj hk => openRing1_f w.heap.size g n c d i j k u ((hu.cell (p := ⟨w.heap.size, 0, none⟩) (by rw [HWs.out]; show w.heap.size < _; omega)).trans KW.out) (RowB.below H.out (HW0.out.trans (hu.mono HW0.out.size)) (RowB.lt H.out)) hi hj hk))
  have KW2 := KW.out
  go_enter Try.func107, Try.ntmps107
  go_wp2_with fail
  rw [← HWe.out]
  go_wp2_with fail
  refine HX.out.mono ?_
  rintro e w2 ⟨b2, rfl, hc, hb2⟩
  clear KW2
  have HC := Lib.hid hc
  have hr := RowB.below KR.out hb2 (by rw [HWs.out]; omega)
  have e1 := RowB.cell hr (show 0 < 1 by omega)
  have e2 := RowB.frozen hr 0
  have e3 := RowB.cell (hr.set 0 (.slice (some ⟨b2, 0, none⟩) n n)) (show 0 < 1 by omega)
  rw [if_pos rfl] at e3
  have HO := Lib.hid (show Only (fun q => q = w.heap.size + 1) w2 (w2.setCell ⟨w.heap.size + 1, 0, none⟩ (.slice (some ⟨b2, 0, none⟩) n n)) from (Only.refl (fun q => q = w.heap.size + 1) w2).setCell (p := ⟨w.heap.size + 1, 0, none⟩) rfl _)
  have HB := Lib.hid (HW0.out.trans (hb2.mono HW0.out.size))
  have HL := Lib.hid (show w.heap.size + 2 ≤ W.heap.size by have := HWs.out; omega)
  clear hr hc hb2 HX
  go_wp2_with fail
  refine bodyPost_ret (v := .agg #[.slice (some ⟨b2, 0, none⟩) n n]) (by simp [results, Try.results107, go_sem, e3]) rfl ⟨b2, rfl, ?_, ?_⟩
  · rw [HO.out.size]
    exact (HC.out.only HO.out (fun k hk h => by have := HL.out; omega)).mono (by have := HL.out; omega) (Nat.le_refl _)
  · exact HB.out.setCell (by show w.heap.size ≤ w.heap.size + 1; omega) _
/-- the numbers of six places -/
def t18 (i j k x y z : Nat) : List Int := [i, j, k, x, k, j, k, y, i, j, z, x, z, i, y, y, x, z]
set_option maxRecDepth 100000 in
set_option maxHeartbeats 8000000 in
theorem turned_f (g n c : Nat) (d : List Nat) (i j k x y z : Nat) (w : World) (hr : RowI w 2 g n (lF d)) (hi : i < n) (hj : j < n) (hk : k < n) (hx : d.getD i 0 = x) (hy : d.getD j 0 = y) (hz : d.getD k 0 = z) :
    Calls Try.prog 109 #[.agg #[.int .i64 i, .int .i64 j, .int .i64 k], .slice (some ⟨g, 0, none⟩) n c] w fun e w' => e = .returned (.agg #[.int .i64 (i : Nat), .int .i64 (j : Nat), .int .i64 (k : Nat), .int .i64 (x : Nat), .int .i64 (k : Nat), .int .i64 (j : Nat), .int .i64 (k : Nat), .int .i64 (y : Nat), .int .i64 (i : Nat), .int .i64 (j : Nat), .int .i64 (z : Nat), .int .i64 (x : Nat), .int .i64 (z : Nat), .int .i64 (i : Nat), .int .i64 (y : Nat), .int .i64 (y : Nat), .int .i64 (x : Nat), .int .i64 (z : Nat)]) ∧ Below w.heap.size w w' := by
  obtain ⟨W, hW⟩ : ∃ W, W = (w.alloc (.cells #[.int .i64 i, .int .i64 j, .int .i64 k] 124)).alloc (.cells #[.int .i64 0, .int .i64 0, .int .i64 0, .int .i64 0, .int .i64 0, .int .i64 0, .int .i64 0, .int .i64 0, .int .i64 0, .int .i64 0, .int .i64 0, .int .i64 0, .int .i64 0, .int .i64 0, .int .i64 0, .int .i64 0, .int .i64 0, .int .i64 0] 125) := ⟨_, rfl⟩
  have HWe := Lib.hid hW
  have HW0 := Lib.hid (show Below w.heap.size w W by rw [hW]; exact (below_alloc _ _).alloc (by simp) _)
  have hb : ∀ q v, #[Value.int .i64 i, .int .i64 j, .int .i64 k][q]? = some v → W.cell? ⟨w.heap.size, q, none⟩ = some v := fun q v hv => by
    rw [hW, World.cell?_alloc_lt _ _ _ (by simp)]
    have h9 := heap_alloc_new w (.cells #[.int .i64 i, .int .i64 j, .int .i64 k] 124)
    simp only [World.cell?, h9]
    exact hv
  have b0 := hb 0 _ rfl
  have b1 := hb 1 _ rfl
  have b2 := hb 2 _ rfl
  have HZ0 := Lib.hid (show W.heap[w.heap.size + 1]? = some (.cells #[.int .i64 0, .int .i64 0, .int .i64 0, .int .i64 0, .int .i64 0, .int .i64 0, .int .i64 0, .int .i64 0, .int .i64 0, .int .i64 0, .int .i64 0, .int .i64 0, .int .i64 0, .int .i64 0, .int .i64 0, .int .i64 0, .int .i64 0, .int .i64 0] 125 (0, 0)) by
    rw [hW]; exact heap_alloc2_new w _ _)
  have a1 : W.cell? ⟨g, i, none⟩ = some (.int .i64 (x : Nat)) := by rw [← hx]; exact RowB.cell (RowB.below hr HW0.out (RowB.lt hr)) hi
  have a2 : W.cell? ⟨g, j, none⟩ = some (.int .i64 (y : Nat)) := by rw [← hy]; exact RowB.cell (RowB.below hr HW0.out (RowB.lt hr)) hj
  have a3 : W.cell? ⟨g, k, none⟩ = some (.int .i64 (z : Nat)) := by rw [← hz]; exact RowB.cell (RowB.below hr HW0.out (RowB.lt hr)) hk
  clear hr hb hx hy hz hW
  go_enter Try.func109, Try.ntmps109
  go_wp2_with fail
  rw [← HWe.out]
  clear HWe
  go_region
  go_wp2_with fail
  go_region
  obtain ⟨W3, hW3⟩ : ∃ x, x = W.drew.drew := ⟨_, rfl⟩
  rw [← hW3]
  have HB3 := Lib.hid (show Below w.heap.size w W3 by rw [hW3]; exact HW0.out.drew.drew)
  have HG : W3.heap[w.heap.size + 1]? = some (.cells #[.int .i64 0, .int .i64 0, .int .i64 0, .int .i64 0, .int .i64 0, .int .i64 0, .int .i64 0, .int .i64 0, .int .i64 0, .int .i64 0, .int .i64 0, .int .i64 0, .int .i64 0, .int .i64 0, .int .i64 0, .int .i64 0, .int .i64 0, .int .i64 0] 125 (0, 0)) := by
    rw [hW3]; exact HZ0.out
  have HB := Lib.hid (fun cs => show Below w.heap.size w (W3.setRow (w.heap.size + 1) cs) from below_setRow HB3.out (by omega) cs)
  have HS := Lib.hid (fun cs => setRow_heap W3 (w.heap.size + 1) _ cs _ _ HG)
  have HGh := Lib.hid HG
  clear HZ0 hW3 a1 a2 a3 b0 b1 b2 HB3 HW0 HG
  go_wp2_with (refine wpList_store_row rfl 125 _ _ rfl (w.heap.size + 1) _ rfl rfl 125 _ HGh.out (by kernel_rfl) rfl (by simp [Value.oneCell']) ?_)
  refine bodyPost_ret (v := .agg #[.int .i64 (i : Nat), .int .i64 (j : Nat), .int .i64 (k : Nat), .int .i64 (x : Nat), .int .i64 (k : Nat), .int .i64 (j : Nat), .int .i64 (k : Nat), .int .i64 (y : Nat), .int .i64 (i : Nat), .int .i64 (j : Nat), .int .i64 (z : Nat), .int .i64 (x : Nat), .int .i64 (z : Nat), .int .i64 (i : Nat), .int .i64 (y : Nat), .int .i64 (y : Nat), .int .i64 (x : Nat), .int .i64 (z : Nat)]) (results_cell_row Try.results109 _ _ (w.heap.size + 1) 125 _ (0, 0) (.array 6 124) rfl (HS.out _) Try.underlying125 rfl (by kernel_rfl)) rfl ⟨rfl, HB.out _⟩
end Go.Proofs.Ytmdmojklagmmiaa
