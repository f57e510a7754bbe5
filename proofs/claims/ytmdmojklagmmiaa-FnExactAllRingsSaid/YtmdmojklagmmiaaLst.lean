/- The least form: of the program. -/
import Derived.Test.YtmdmojklagmmiaaPac
import Derived.Test.YtmdmojklagmmiaaOpS
import Derived.Deep.RegionWith
namespace Go.Proofs.Ytmdmojklagmmiaa
open Go.RowKit
set_option linter.unusedSimpArgs false
set_option maxRecDepth 100000 in
theorem renumbered1_f (p1 p2 b off n c : Nat) (B O C : Nat → Nat) (B2 O2 C2 : Nat → Nat → Nat) (f : Nat → Nat → Nat → Int) (g o1 m c1 : Nat) (p : List Nat) (i j k : Nat) (w : World) (h : CubeAt w b off n B O C B2 O2 C2 f) (hp1 : w.cell? ⟨p1, 0, none⟩ = some (.slice (some ⟨b, off, none⟩) n c)) (hp2 : w.cell? ⟨p2, 0, none⟩ = some (.slice (some ⟨g, o1, none⟩) m c1)) (hr : ∀ x, x < m → w.cell? ⟨g, o1 + x, none⟩ = some (.int .i64 (p.getD x 0 : Nat))) (hb : ∀ x, x < m → p.getD x 0 < n) (hi : i < m) (hj : j < m) (hk : k < m) :
    Calls Try.prog 118 #[.int .i64 i, .int .i64 j, .int .i64 k, .pointer (some ⟨p1, 0, none⟩), .pointer (some ⟨p2, 0, none⟩)] w fun e w' => e = .returned (.int .i64 (ren f p i j k)) ∧ Drawn w w' := by
  have q1 := hb i hi
  have q2 := hb j hj
  have q3 := hb k hk
  have a1 := hr i hi
  have a2 := hr j hj
  have a3 := hr k hk
  have x1 := (h.row _ q1).1
  have x2 := (h.col _ _ q1 q2).1
  have x3 := h.num _ _ _ q1 q2 q3
  have HF := Lib.hid (show f (p.getD i 0) (p.getD j 0) (p.getD k 0) = ren f p i j k from rfl)
  rw [HF.out] at x3
  clear h hr hb HF
  generalize p.getD i 0 = pi at *
  generalize p.getD j 0 = pj at *
  generalize p.getD k 0 = pk at *
  generalize B pi = g3 at x1 x2
  generalize O pi = o3 at x1 x2
  generalize C pi = c3 at x1
  generalize B2 pi pj = g4 at x2 x3
  generalize O2 pi pj = o4 at x2 x3
  generalize C2 pi pj = c4 at x2
  obtain ⟨v, hv⟩ : ∃ v, v = ren f p i j k := ⟨_, rfl⟩
  rw [← hv] at x3 ⊢
  clear hv
  go_enter Try.func118, Try.ntmps118
  go_wp2_with fail
  refine wp_region_any (by kernel_rfl) ?_
  refine wpAny_still_tail 0 20 (by kernel_rfl) (by kernel_rfl) ?_
  simp only [List.take_succ_cons, List.take_zero, List.drop_succ_cons, List.drop_zero]
  repeat still_step
  refine wpStill_nil ?_
  change wpList _ _ _ _ _ w.drew
  clear a1 a2 a3 x1 x2 x3 hp1 hp2
  obtain ⟨wq, hwq⟩ : ∃ x, x = w.drew := ⟨_, rfl⟩
  have HD := Lib.hid (show Drawn w wq by rw [hwq]; exact ⟨1, rfl⟩)
  rw [← hwq]
  clear hwq
  go_wp2_with fail
  go_ret
  exact ⟨rfl, HD.out⟩
theorem cubStep (g : Nat → Nat → Nat → Int) (i j k a b c : Nat) : (if a = i ∧ b = j ∧ c = k then g i j k else if a = i ∧ b = j ∧ k ≤ c then 0 else g a b c) = if a = i ∧ b = j ∧ k + 1 ≤ c then 0 else g a b c := by
  by_cases e : a = i ∧ b = j
  · obtain ⟨rfl, rfl⟩ := e
    by_cases e2 : c = k
    · subst e2; simp; omega
    · simp only [true_and, if_neg (show ¬ c = k from e2)]
      by_cases e3 : k ≤ c
      · rw [if_pos e3, if_pos (by omega)]
      · rw [if_neg e3, if_neg (by omega)]
  · rw [if_neg (fun h => e ⟨h.1, h.2.1⟩), if_neg (fun h => e ⟨h.1, h.2.1⟩), if_neg (fun h => e ⟨h.1, h.2.1⟩)]
set_option maxHeartbeats 8000000 in
set_option maxRecDepth 100000 in
theorem ringOf_ren_f (p1 p2 : Nat) (n : Nat) (g : Nat → Nat → Nat → Int) (w : World) (hn : n ≤ 1000) (hcall : ∀ u i j k, Below w.heap.size w u → i < n → j < n → k < n → Calls Try.prog 118 #[.int .i64 (i : Nat), .int .i64 (j : Nat), .int .i64 (k : Nat), .pointer (some ⟨p1, 0, none⟩), .pointer (some ⟨p2, 0, none⟩)] u fun e w' => e = .returned (.int .i64 (g i j k)) ∧ Drawn u w') :
    Calls Try.prog 117 #[.int .i64 n, .func (.func 118) #[] #[.pointer (some ⟨p1, 0, none⟩), .pointer (some ⟨p2, 0, none⟩)]] w fun e w' => ∃ b, e = .returned (.agg #[.slice (some ⟨b, 0, none⟩) n n]) ∧ CubO w' w.heap.size w'.heap.size b n (fun _ => n) (fun _ _ => n) g ∧ Below w.heap.size w w' := by
  have hmT := run_make_row' (P := Try.prog) 22 51 (.slice none 0 0) 24 Try.underlying22 infoTab rfl .i64 .i64 n (by omega) (by omega)
  have hmM := run_make_row' (P := Try.prog) 51 26 (.slice none 0 0) 24 Try.underlying51 infoRow rfl .i64 .i64 n (by omega) (by omega)
  have hmk := run_make_row' (P := Try.prog) 26 2 (.int .i64 0) 8 Try.underlying26 infoI64 rfl .i64 .i64 n (by omega) (by omega)
  have HX := Lib.hid hcall
  clear hcall
  obtain ⟨wS, hwS⟩ : ∃ x, x = w.alloc (.cells #[.slice none 0 0] 29) := ⟨_, rfl⟩
  have HS := Lib.hid (show Below w.heap.size w wS by rw [hwS]; exact below_alloc w _)
  have HSz := Lib.hid (show wS.heap.size = w.heap.size + 1 by rw [hwS]; simp)
  have HSr := Lib.hid (show RowB wS 29 w.heap.size 1 (fun _ => .slice none 0 0) by rw [hwS]; exact row_one _ _ _)
  have HSe := Lib.hid hwS
  clear hwS
  go_enter Try.func117, Try.ntmps117
  go_wp2_with fail
  rw [← HSe.out]
  go_loopw [12] (fun x wr => ∃ (i : Nat) (B : Nat → Nat) (G : Nat → Nat → Nat), i ≤ n ∧ x = .int .i64 i ∧ CubP wS wr n i (fun _ => n) B G g) (fun x _ => n - (intOf x).toNat)
  case atStart => exact ⟨0, fun _ => 0, fun _ _ => 0, by omega, rfl, by rw [HSz.out] at *; exact CubP.start wS n _ _ _ _⟩
  case round =>
    obtain ⟨i, B0, G0, hi, rfl, hcb⟩ := hrel
    have HC := Lib.hid hcb
    clear hcb
    by_cases hin : i < n
    · have e1 := RowB.cell (HC.out.outer.alloc (.cells (madeCells #[.slice none 0 0] n) 26)) hin
      have e2 := RowB.frozen (HC.out.outer.alloc (.cells (madeCells #[.slice none 0 0] n) 26)) i
      simp only [if_neg (show ¬ i < i by omega)] at e1
      rw [HSz.out] at e1 e2
      have HN := Lib.hid (HC.out.newTab)
      rw [HSz.out] at HN
      clear HC
      go_wp2_with fail
      obtain ⟨w1, hw1⟩ : ∃ x, x = (wr.alloc (.cells (madeCells #[.slice none 0 0] n) 26)).setCell ⟨w.heap.size + 1, i, none⟩ (.slice (some ⟨wr.heap.size, 0, none⟩) n n) := ⟨_, rfl⟩
      rw [← hw1] at HN ⊢
      clear hw1 e1 e2
      go_loopw [21] (fun x wr => ∃ (j : Nat) (B : Nat → Nat) (G : Nat → Nat → Nat), j ≤ n ∧ x = .int .i64 j ∧ CubP wS wr n (i + 1) (fun a => if a = i then j else n) B G g) (fun x _ => n - (intOf x).toNat)
      case atStart => exact ⟨0, _, _, by omega, rfl, HN.out⟩
      case round =>
        obtain ⟨j, B1, G1, hj, rfl, hcb⟩ := hrel
        have HC := Lib.hid hcb
        clear hcb
        by_cases hjn : j < n
        · have HD := Lib.hid (HC.out.cong (g := fun a b c => if a = i ∧ b = j then 0 else g a b c) (q' := fun a => if a = i then j else n) (fun _ _ => rfl) (fun a b c ha hb hc => by
            rw [if_neg]; rintro ⟨rfl, rfl⟩; simp at hb))
          have HN := Lib.hid (HD.out.newRow (i0 := i) (by omega) (fun k => by simp))
          simp only [if_true] at HN
          have e1 := RowB.cell HC.out.outer hin
          have e3 := RowB.cell (HC.out.outer.alloc (.cells (madeCells #[.int .i64 0] n) 2)) hin
          have ht := (HC.out.tab i (by omega)).2
          have e4 := RowB.cell ht hjn
          have e5 := RowB.frozen ht j
          have e6 := RowB.cell (ht.alloc (.cells (madeCells #[.int .i64 0] n) 2)) hjn
          have e7 := RowB.frozen (ht.alloc (.cells (madeCells #[.int .i64 0] n) 2)) j
          simp only [if_pos (show i < i + 1 by omega), if_true, if_neg (show ¬ j < j by omega)] at e1 e3 e4 e6
          rw [HSz.out] at e1 e3
          clear ht
          obtain ⟨gi, hgi⟩ : ∃ x, x = B1 i := ⟨_, rfl⟩
          rw [← hgi] at e1 e3 e4 e5 e6 e7 HN
          have HG := Lib.hid hgi
          clear hgi HD
          go_wp2_with fail
          go_region
          obtain ⟨w2, hw2⟩ : ∃ x, x = ((wr.alloc (.cells (madeCells #[.int .i64 0] n) 2)).setCell ⟨gi, j, none⟩ (.slice (some ⟨wr.heap.size, 0, none⟩) n n)).drew := ⟨_, rfl⟩
          have HN := Lib.hid (show CubP wS w2 n (i + 1) _ _ _ _ by rw [hw2]; exact HN.out.kept ((Below.refl _ _).drew))
          rw [← hw2]
          clear hw2 e1 e3 e4 e5 e6 e7 HC HG
          go_wp2_with fail
          go_loopw [33] (fun x wr => ∃ (k : Nat) (B : Nat → Nat) (G : Nat → Nat → Nat), k ≤ n ∧ x = .int .i64 k ∧ CubP wS wr n (i + 1) (fun a => if a = i then j + 1 else n) B G (fun a b c => if a = i ∧ b = j ∧ k ≤ c then 0 else g a b c)) (fun x _ => n - (intOf x).toNat)
          case atStart => exact ⟨0, _, _, by omega, rfl, HN.out.cong (fun a ha => by by_cases e : a = i <;> simp [e]) (fun a b c _ _ _ => by simp)⟩
          case round =>
            obtain ⟨k, B2, G2, hk, rfl, hcb⟩ := hrel
            have HC := Lib.hid hcb
            clear hcb
            by_cases hkn : k < n
            · have e1 := RowB.cell HC.out.outer hin
              have ht := (HC.out.tab i (by omega)).2
              have e4 := RowB.cell ht hjn
              have hr := (HC.out.row i j (by omega) (by simp)).2
              have e5 : wr.cell? ⟨G2 i j, k, none⟩ = some (.int .i64 0) := by
                have := RowB.cell (show RowB wr 2 (G2 i j) n _ from hr) hkn
                simpa using this
              have e6 := RowB.frozen (show RowB wr 2 (G2 i j) n _ from hr) k
              simp only [if_pos (show i < i + 1 by omega), if_true, if_pos (show j < j + 1 by omega)] at e1 e4
              rw [HSz.out] at e1
              have HN := Lib.hid (HC.out.setNum (i0 := i) (j0 := j) (by omega) (by simp) k (g i j k))
              clear ht hr
              obtain ⟨gi, hgi⟩ : ∃ x, x = B2 i := ⟨_, rfl⟩
              obtain ⟨gj, hgj⟩ : ∃ x, x = G2 i j := ⟨_, rfl⟩
              rw [← hgi] at e1 e4
              rw [← hgj] at e4 e5 e6 HN
              clear hgi hgj
              have HY := Lib.hid (fun u (hu : Drawn wr u) => HX.out u i j k ((HS.out.trans (HC.out.bel.mono HS.out.size)).trans (hu.below (B := w.heap.size))) hin hjn hkn)
              go_wp2_with fail
              go_region_with (go_at_call 118; refine (HY.out _ (by first | exact ⟨1, rfl⟩ | exact ⟨0, rfl⟩)).mono ?_; rintro e w' ⟨rfl, dd, rfl⟩)
              all_goals have HN3 := Lib.hid (show CubP wS ((wr.drewN (1 + dd)).setCell ⟨gj, k, none⟩ (.int .i64 (g i j k))) n (i + 1) _ B2 G2 _ from HN.out.kept (below_drewN (Below.refl _ _) (1 + dd)))
              all_goals obtain ⟨wq, hwq⟩ : ∃ x, x = ((wr.drewN (1 + dd)).setCell ⟨gj, k, none⟩ (.int .i64 (g i j k))) := ⟨_, rfl⟩
              all_goals rw [← hwq] at HN3 ⊢
              all_goals clear hwq e1 e4 e5 e6 HC HY HN
              all_goals go_wp2_with fail
              all_goals exact ⟨⟨k + 1, B2, G2, by omega, by go_num, HN3.out.cong (fun _ _ => rfl) (fun a b c ha hb hc => cubStep g i j k a b c)⟩, by simp [intOf]; omega⟩
            · obtain rfl : k = n := by omega
              go_wp2_with fail
              exact ⟨⟨j + 1, B2, G2, by omega, by go_num, HC.out.cong (fun a ha => by by_cases e : a = i <;> simp [e]) (fun a b c ha hb hc => by
                rw [if_neg (fun h => by omega)])⟩, by simp [intOf]; omega⟩
        · obtain rfl : j = n := by omega
          go_wp2_with fail
          exact ⟨⟨i + 1, B1, G1, by omega, by go_num, HC.out.cong (fun a ha => by by_cases e : a = i <;> simp [e]) (fun _ _ _ _ _ _ => rfl)⟩, by simp [intOf]; omega⟩
    · obtain rfl : i = n := by omega
      have HD := Lib.hid (HC.out.done (fun _ _ => rfl) (by unfold maxLen; omega))
      have hr := RowB.below HSr.out HC.out.bel (by rw [HSz.out]; omega)
      have e1 := RowB.cell hr (show 0 < 1 by omega)
      have e2 := RowB.frozen hr 0
      have e3 := RowB.cell (hr.set 0 (.slice (some ⟨w.heap.size + 1, 0, none⟩) i i)) (show 0 < 1 by omega)
      rw [if_pos rfl] at e3
      have HO := Lib.hid (show Only (fun q => q = w.heap.size) wr (wr.setCell ⟨w.heap.size, 0, none⟩ (.slice (some ⟨w.heap.size + 1, 0, none⟩) i i)) from (Only.refl (fun q => q = w.heap.size) wr).setCell (p := ⟨w.heap.size, 0, none⟩) rfl _)
      have HB := Lib.hid (HS.out.trans (HC.out.bel.mono HS.out.size))
      rw [HSz.out] at HD
      clear hr HC
      go_wp2_with fail
      refine bodyPost_ret (v := .agg #[.slice (some ⟨w.heap.size + 1, 0, none⟩) i i]) (by simp [results, Try.results117, go_sem, e3]) rfl ⟨w.heap.size + 1, rfl, ?_, ?_⟩
      · rw [HO.out.size]
        exact (HD.out.only HO.out (fun k hk h => by omega)).mono (by omega) (Nat.le_refl _)
      · exact HB.out.setCell (Nat.le_refl _) _
end Go.Proofs.Ytmdmojklagmmiaa
