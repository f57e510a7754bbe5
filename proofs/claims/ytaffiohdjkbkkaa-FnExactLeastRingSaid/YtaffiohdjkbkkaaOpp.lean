/- OppositeRing of the program. -/
import Derived.Test.YtaffiohdjkbkkaaCbo
import Derived.Test.YtaffiohdjkbkkaaRgI
import Derived.Test.YtaffiohdjkbkkaaTail
namespace Go.Proofs.Ytaffiohdjkbkkaa
open Go.RowKit
set_option linter.unusedSimpArgs false
theorem opposite1_f (p b off n c : Nat) (B O C : Nat → Nat) (B2 O2 C2 : Nat → Nat → Nat) (f : Nat → Nat → Nat → Int) (i j k : Nat) (w : World) (h : CubeAt w b off n B O C B2 O2 C2 f) (hp : w.cell? ⟨p, 0, none⟩ = some (.slice (some ⟨b, off, none⟩) n c)) (hi : i < n) (hj : j < n) (hk : k < n) :
    Calls Try.prog 123 #[.int .i64 i, .int .i64 j, .int .i64 k, .pointer (some ⟨p, 0, none⟩)] w fun e w' => e = .returned (.int .i64 (f j i k)) ∧ w = w' := by
  have e1 := (h.row j hj).1
  have e2 := (h.col j i hj hi).1
  have e3 := h.num j i k hj hi hk
  clear h
  generalize B j = b1 at *
  generalize O j = o1 at *
  generalize C j = c1 at *
  generalize B2 j i = b2 at *
  generalize O2 j i = o2 at *
  generalize C2 j i = c2 at *
  generalize f j i k = x at *
  go_enter Try.func123, Try.ntmps123
  go_wp2_with fail
  go_ret
  exact ⟨rfl, rfl⟩
set_option maxHeartbeats 8000000 in
set_option maxRecDepth 100000 in
theorem ringOf_opp_f (p : Nat) (n : Nat) (g : Nat → Nat → Nat → Int) (w : World) (hn : n ≤ 1000) (hcall : ∀ u i j k, Below w.heap.size w u → i < n → j < n → k < n → Calls Try.prog 123 #[.int .i64 (i : Nat), .int .i64 (j : Nat), .int .i64 (k : Nat), .pointer (some ⟨p, 0, none⟩)] u fun e w' => e = .returned (.int .i64 (g i j k)) ∧ u = w') :
    Calls Try.prog 122 #[.int .i64 n, .func (.func 123) #[] #[.pointer (some ⟨p, 0, none⟩)]] w fun e w' => ∃ b, e = .returned (.agg #[.slice (some ⟨b, 0, none⟩) n n]) ∧ CubO w' w.heap.size w'.heap.size b n (fun _ => n) (fun _ _ => n) g ∧ Below w.heap.size w w' := by
  have hmT := run_make_row' (P := Try.prog) 22 25 (.slice none 0 0) 24 Try.underlying22 infoTab rfl .i64 .i64 n (by omega) (by omega)
  have hmM := run_make_row' (P := Try.prog) 25 23 (.slice none 0 0) 24 Try.underlying25 infoRow rfl .i64 .i64 n (by omega) (by omega)
  have hmk := run_make_row' (P := Try.prog) 23 2 (.int .i64 0) 8 Try.underlying23 infoI64 rfl .i64 .i64 n (by omega) (by omega)
  have HX := Lib.hid hcall
  clear hcall
  obtain ⟨wS, hwS⟩ : ∃ x, x = w.alloc (.cells #[.slice none 0 0] 39) := ⟨_, rfl⟩
  have HS := Lib.hid (show Below w.heap.size w wS by rw [hwS]; exact below_alloc w _)
  have HSz := Lib.hid (show wS.heap.size = w.heap.size + 1 by rw [hwS]; simp)
  have HSr := Lib.hid (show RowB wS 39 w.heap.size 1 (fun _ => .slice none 0 0) by rw [hwS]; exact row_one _ _ _)
  have HSe := Lib.hid hwS
  clear hwS
  go_enter Try.func122, Try.ntmps122
  go_wp2_with fail
  rw [← HSe.out]
  go_loopw [12] (fun x wr => ∃ (i : Nat) (B : Nat → Nat) (G : Nat → Nat → Nat), i ≤ n ∧ x = .int .i64 i ∧ CubP wS wr n i (fun _ => n) B G g) (fun x _ => n - (intOf x).toNat)
  case atStart => exact ⟨0, fun _ => 0, fun _ _ => 0, by omega, rfl, by rw [HSz.out] at *; exact CubP.start wS n _ _ _ _⟩
  case round =>
    obtain ⟨i, B0, G0, hi, rfl, hcb⟩ := hrel
    have HC := Lib.hid hcb
    clear hcb
    by_cases hin : i < n
    · have e1 := RowB.cell (HC.out.outer.alloc (.cells (madeCells #[.slice none 0 0] n) 23)) hin
      have e2 := RowB.frozen (HC.out.outer.alloc (.cells (madeCells #[.slice none 0 0] n) 23)) i
      simp only [if_neg (show ¬ i < i by omega)] at e1
      rw [HSz.out] at e1 e2
      have HN := Lib.hid (HC.out.newTab)
      rw [HSz.out] at HN
      clear HC
      go_wp2_with fail
      obtain ⟨w1, hw1⟩ : ∃ x, x = (wr.alloc (.cells (madeCells #[.slice none 0 0] n) 23)).setCell ⟨w.heap.size + 1, i, none⟩ (.slice (some ⟨wr.heap.size, 0, none⟩) n n) := ⟨_, rfl⟩
      rw [← hw1] at HN ⊢
      clear hw1 e1 e2
      go_loopw [21] (fun x wr => ∃ (j : Nat) (B : Nat → Nat) (G : Nat → Nat → Nat), j ≤ n ∧ x = .int .i64 j ∧ CubP wS wr n (i + 1) (fun a => if a = i then j else n) B G g) (fun x _ => n - (intOf x).toNat)
      case atStart => exact ⟨0, _, _, by omega, rfl, HN.out⟩
      case round =>
        obtain ⟨j, B1, G1, hj, rfl, hcb⟩ := hrel
        have HC := Lib.hid hcb
        clear hcb
        by_cases hjn : j < n
        · have HD := Lib.hid (HC.out.cong (g := fun a b c => if a = i ∧ b = j then 0 else g a b c) (q' := fun a => if a = i then j else n) (fun _ _ => rfl) (fun a b c ha hb hc => by
            rw [if_neg]; rintro ⟨rfl, rfl⟩; simp at hb))
          have HN := Lib.hid (HD.out.newRow (i0 := i) (by omega) (fun k => by simp))
          simp only [if_true] at HN
          have e1 := RowB.cell HC.out.outer hin
          have e3 := RowB.cell (HC.out.outer.alloc (.cells (madeCells #[.int .i64 0] n) 2)) hin
          have ht := (HC.out.tab i (by omega)).2
          have e4 := RowB.cell ht hjn
          have e5 := RowB.frozen ht j
          have e6 := RowB.cell (ht.alloc (.cells (madeCells #[.int .i64 0] n) 2)) hjn
          have e7 := RowB.frozen (ht.alloc (.cells (madeCells #[.int .i64 0] n) 2)) j
          simp only [if_pos (show i < i + 1 by omega), if_true, if_neg (show ¬ j < j by omega)] at e1 e3 e4 e6
          rw [HSz.out] at e1 e3
          clear ht
          obtain ⟨gi, hgi⟩ : ∃ x, x = B1 i := ⟨_, rfl⟩
          rw [← hgi] at e1 e3 e4 e5 e6 e7 HN
          have HG := Lib.hid hgi
          clear hgi HD
          go_wp2_with fail
          go_region
          obtain ⟨w2, hw2⟩ : ∃ x, x = ((wr.alloc (.cells (madeCells #[.int .i64 0] n) 2)).setCell ⟨gi, j, none⟩ (.slice (some ⟨wr.heap.size, 0, none⟩) n n)).drew := ⟨_, rfl⟩
          have HN := Lib.hid (show CubP wS w2 n (i + 1) _ _ _ _ by rw [hw2]; exact HN.out.kept ((Below.refl _ _).drew))
          rw [← hw2]
          clear hw2 e1 e3 e4 e5 e6 e7 HC HG
          go_wp2_with fail
          go_loopw [33] (fun x wr => ∃ (k : Nat) (B : Nat → Nat) (G : Nat → Nat → Nat), k ≤ n ∧ x = .int .i64 k ∧ CubP wS wr n (i + 1) (fun a => if a = i then j + 1 else n) B G (fun a b c => if a = i ∧ b = j ∧ k ≤ c then 0 else g a b c)) (fun x _ => n - (intOf x).toNat)
          case atStart => exact ⟨0, _, _, by omega, rfl, HN.out.cong (fun a ha => by by_cases e : a = i <;> simp [e]) (fun a b c _ _ _ => by simp)⟩
          case round =>
            obtain ⟨k, B2, G2, hk, rfl, hcb⟩ := hrel
            have HC := Lib.hid hcb
            clear hcb
            by_cases hkn : k < n
            · have e1 := RowB.cell HC.out.outer hin
              have ht := (HC.out.tab i (by omega)).2
              have e4 := RowB.cell ht hjn
              have hr := (HC.out.row i j (by omega) (by simp)).2
              have e5 : wr.cell? ⟨G2 i j, k, none⟩ = some (.int .i64 0) := by
                have := RowB.cell (show RowB wr 2 (G2 i j) n _ from hr) hkn
                simpa using this
              have e6 := RowB.frozen (show RowB wr 2 (G2 i j) n _ from hr) k
              simp only [if_pos (show i < i + 1 by omega), if_true, if_pos (show j < j + 1 by omega)] at e1 e4
              rw [HSz.out] at e1
              have HN := Lib.hid (HC.out.setNum (i0 := i) (j0 := j) (by omega) (by simp) k (g i j k))
              clear ht hr
              obtain ⟨gi, hgi⟩ : ∃ x, x = B2 i := ⟨_, rfl⟩
              obtain ⟨gj, hgj⟩ : ∃ x, x = G2 i j := ⟨_, rfl⟩
              rw [← hgi] at e1 e4
              rw [← hgj] at e4 e5 e6 HN
              clear hgi hgj
              have HY := Lib.hid (HX.out wr.drew i j k (HS.out.trans (HC.out.bel.mono HS.out.size)).drew hin hjn hkn)
              go_wp2_with fail
              refine wp_region_any (by kernel_rfl) ?_
              refine wpAny_still_tail 0 14 (by kernel_rfl) (by kernel_rfl) ?_
              simp only [List.take_succ_cons, List.take_zero, List.drop_succ_cons, List.drop_zero]
              repeat still_step
              refine wpStill_step (fun K hK => ?_)
              go_simp
              refine ⟨_, HY.out.mono (fun e w' h => ⟨h.1, h.2.symm⟩), hK _ ?_⟩
              clear hK K
              repeat still_step
              refine wpStill_nil ?_
              change wpList _ _ _ _ _ wr.drew
              obtain ⟨wq, hwq⟩ : ∃ x, x = wr.drew := ⟨_, rfl⟩
              have HN := Lib.hid (show CubP wS (wq.setCell ⟨gj, k, none⟩ (.int .i64 (g i j k))) n (i + 1) _ B2 G2 _ by
                rw [hwq]; exact HN.out.kept ((Below.refl _ _).drew))
              have d5 : wq.cell? ⟨gj, k, none⟩ = some (.int .i64 0) := by rw [hwq]; exact e5
              have d6 : wq.frozen? ⟨gj, k, none⟩ = false := by rw [hwq]; exact e6
              rw [← hwq]
              clear hwq e1 e4 e5 e6 HC HY
              go_wp2_with fail
              exact ⟨⟨k + 1, B2, G2, by omega, by go_num, HN.out.cong (fun _ _ => rfl) (fun a b c ha hb hc => by
                by_cases e : a = i ∧ b = j
                · obtain ⟨rfl, rfl⟩ := e
                  by_cases e2 : c = k
                  · subst e2; simp; omega
                  · simp only [true_and, if_neg (show ¬ c = k from e2)]
                    by_cases e3 : k ≤ c
                    · rw [if_pos e3, if_pos (by omega)]
                    · rw [if_neg e3, if_neg (by omega)]
                · rw [if_neg (fun h => e ⟨h.1, h.2.1⟩), if_neg (fun h => e ⟨h.1, h.2.1⟩), if_neg (fun h => e ⟨h.1, h.2.1⟩)])⟩, by simp [intOf]; omega⟩
            · obtain rfl : k = n := by omega
              go_wp2_with fail
              exact ⟨⟨j + 1, B2, G2, by omega, by go_num, HC.out.cong (fun a ha => by by_cases e : a = i <;> simp [e]) (fun a b c ha hb hc => by
                rw [if_neg (fun h => by omega)])⟩, by simp [intOf]; omega⟩
        · obtain rfl : j = n := by omega
          go_wp2_with fail
          exact ⟨⟨i + 1, B1, G1, by omega, by go_num, HC.out.cong (fun a ha => by by_cases e : a = i <;> simp [e]) (fun _ _ _ _ _ _ => rfl)⟩, by simp [intOf]; omega⟩
    · obtain rfl : i = n := by omega
      have HD := Lib.hid (HC.out.done (fun _ _ => rfl) (by unfold maxLen; omega))
      have hr := RowB.below HSr.out HC.out.bel (by rw [HSz.out]; omega)
      have e1 := RowB.cell hr (show 0 < 1 by omega)
      have e2 := RowB.frozen hr 0
      have e3 := RowB.cell (hr.set 0 (.slice (some ⟨w.heap.size + 1, 0, none⟩) i i)) (show 0 < 1 by omega)
      rw [if_pos rfl] at e3
      have HO := Lib.hid (show Only (fun q => q = w.heap.size) wr (wr.setCell ⟨w.heap.size, 0, none⟩ (.slice (some ⟨w.heap.size + 1, 0, none⟩) i i)) from (Only.refl (fun q => q = w.heap.size) wr).setCell (p := ⟨w.heap.size, 0, none⟩) rfl _)
      have HB := Lib.hid (HS.out.trans (HC.out.bel.mono HS.out.size))
      rw [HSz.out] at HD
      clear hr HC
      go_wp2_with fail
      refine bodyPost_ret (v := .agg #[.slice (some ⟨w.heap.size + 1, 0, none⟩) i i]) (by simp [results, Try.results122, go_sem, e3]) rfl ⟨w.heap.size + 1, rfl, ?_, ?_⟩
      · rw [HO.out.size]
        exact (HD.out.only HO.out (fun k hk h => by omega)).mono (by omega) (Nat.le_refl _)
      · exact HB.out.setCell (Nat.le_refl _) _
theorem opposite_f (b off n c : Nat) (B O C : Nat → Nat) (B2 O2 C2 : Nat → Nat → Nat) (f : Nat → Nat → Nat → Int) (w : World) (h : CubeAt w b off n B O C B2 O2 C2 f) (hn : n ≤ 1000) :
    Calls Try.prog 71 #[.agg #[.slice (some ⟨b, off, none⟩) n c]] w fun e w' => ∃ b, e = .returned (.agg #[.slice (some ⟨b, 0, none⟩) n n]) ∧ CubO w' w.heap.size w'.heap.size b n (fun _ => n) (fun _ _ => n) (fun i j k => f j i k) ∧ Below w.heap.size w w' := by
  have H := Lib.hid h
  clear h
  obtain ⟨W, hW⟩ : ∃ W, W = (w.alloc (.cells #[.slice (some ⟨b, off, none⟩) n c] 39)).alloc (.cells #[.slice none 0 0] 39) := ⟨_, rfl⟩
  have HW0 := Lib.hid (show Below w.heap.size w W by rw [hW]; exact ((Below.refl _ _).alloc (Nat.le_refl _) _).alloc (by simp) _)
  have HWs := Lib.hid (show W.heap.size = w.heap.size + 2 by rw [hW]; simp)
  have KW := Lib.hid (show W.cell? ⟨w.heap.size, 0, none⟩ = some (.slice (some ⟨b, off, none⟩) n c) by rw [hW, World.cell?_alloc_lt _ _ _ (by simp)]; exact cell_box _ _ _)
  have KR := Lib.hid (show RowB W 39 (w.heap.size + 1) 1 (fun _ => .slice none 0 0) by
    rw [hW]
    have := row_one (w.alloc (.cells #[.slice (some ⟨b, off, none⟩) n c] 39)) (.slice none 0 0) 39
    simpa using this)
  have HWe := Lib.hid hW
  clear hW
  go_enter Try.func71, Try.ntmps71
  go_wp2_with fail
  rw [← HWe.out]
  refine (rank_f _ n c _).mono ?_
  rintro e w1 ⟨rfl, hb1⟩
  have HB1 := Lib.hid hb1
  have HT := Lib.hid (HW0.out.trans (hb1.mono HW0.out.size))
  clear hb1
  have HX := Lib.hid (ringOf_opp_f w.heap.size n (fun i j k => f j i k) w1 hn (fun u i j k hu hi hj hk => opposite1_f w.heap.size b off n c B O C B2 O2 C2 f i j k u (H.out.below (HT.out.trans (hu.mono HT.out.size))) (((HB1.out.trans (hu.mono HB1.out.size)).cell (p := ⟨w.heap.size, 0, none⟩) (by rw [HWs.out]; show w.heap.size < _; omega)).trans KW.out) hi hj hk))
  go_wp2_with fail
  refine HX.out.mono ?_
  rintro e w2 ⟨b2, rfl, hc, hb2⟩
  have HC := Lib.hid hc
  have hr := RowB.below KR.out (HB1.out.trans (hb2.mono HB1.out.size)) (by rw [HWs.out]; omega)
  have e1 := RowB.cell hr (show 0 < 1 by omega)
  have e2 := RowB.frozen hr 0
  have e3 := RowB.cell (hr.set 0 (.slice (some ⟨b2, 0, none⟩) n n)) (show 0 < 1 by omega)
  rw [if_pos rfl] at e3
  have HO := Lib.hid (show Only (fun q => q = w.heap.size + 1) w2 (w2.setCell ⟨w.heap.size + 1, 0, none⟩ (.slice (some ⟨b2, 0, none⟩) n n)) from (Only.refl (fun q => q = w.heap.size + 1) w2).setCell (p := ⟨w.heap.size + 1, 0, none⟩) rfl _)
  have HB := Lib.hid (HT.out.trans (hb2.mono HT.out.size))
  have HL := Lib.hid (show w.heap.size + 2 ≤ w1.heap.size by have := HB1.out.size; have := HWs.out; omega)
  clear hr hc hb2 HX
  go_wp2_with fail
  refine bodyPost_ret (v := .agg #[.slice (some ⟨b2, 0, none⟩) n n]) (by simp [results, Try.results71, go_sem, e3]) rfl ⟨b2, rfl, ?_, ?_⟩
  · rw [HO.out.size]
    exact (HC.out.only HO.out (fun k hk h => by have := HL.out; omega)).mono (by have := HL.out; omega) (Nat.le_refl _)
  · exact HB.out.setCell (by show w.heap.size ≤ w.heap.size + 1; omega) _
set_option maxRecDepth 100000 in
theorem implOpp_f (a : Option Addr) (n c : Nat) (M : Nat → Nat) (L : Nat → Nat → Nat) (f : Nat → Nat → Nat → Int) (w : World) (h : RdT w a n M L f) (hn : n ≤ 1048576) (hM : ∀ i, i < n → M i ≤ 1048576) (hL : ∀ i, i < n → ∀ j, j < M i → L i j ≤ 1048576) :
    Calls Try.prog 26 #[.agg #[.slice a n c]] w (RingRes w (nRg (ringB n M L f) n) (fun _ => n) (fun _ _ => n) (fun i j k => f j i k) (cRg (ringB n M L f))) := by
  have HI := Lib.hid (fun u (hu : Below w.heap.size w u) => implIsRing_f a n c M L f u (h.below hu (Nat.le_refl _)) hn hM hL)
  clear hM hL
  obtain ⟨W, hW⟩ : ∃ W, W = (w.alloc (.cells #[.slice a n c] 39)).alloc (.cells #[.slice none 0 0] 39) := ⟨_, rfl⟩
  have HW0 := Lib.hid (show Below w.heap.size w W by rw [hW]; exact ((Below.refl _ _).alloc (Nat.le_refl _) _).alloc (by simp) _)
  have HWs := Lib.hid (show W.heap.size = w.heap.size + 2 by rw [hW]; simp)
  have KW := Lib.hid (show W.cell? ⟨w.heap.size, 0, none⟩ = some (.slice a n c) by rw [hW, World.cell?_alloc_lt _ _ _ (by simp)]; exact cell_box _ _ _)
  have KR := Lib.hid (show RowB W 39 (w.heap.size + 1) 1 (fun _ => .slice none 0 0) by
    rw [hW]
    have := row_one (w.alloc (.cells #[.slice a n c] 39)) (.slice none 0 0) 39
    simpa using this)
  have HWe := Lib.hid hW
  clear hW
  cases hr : ringB n M L f
  · rw [hr] at HI
    clear h hr
    go_enter Try.func26, Try.ntmps26
    go_wp2_with fail
    rw [← HWe.out]
    refine (HI.out _ HW0.out).mono ?_
    rintro e w1 ⟨rfl, hb⟩
    have HB := Lib.hid (HW0.out.trans (hb.mono HW0.out.size))
    have hr := RowB.below KR.out hb (by rw [HWs.out]; omega)
    have e1 := RowB.cell hr (show 0 < 1 by omega)
    have e2 := RowB.frozen hr 0
    have e3 := RowB.cell (hr.set 0 (.slice none 0 0)) (show 0 < 1 by omega)
    rw [if_pos rfl] at e3
    clear hb hr
    go_wp2_with fail
    refine bodyPost_ret (v := .tuple #[.agg #[.slice none 0 0], .int .i64 1]) (by simp [results, Try.results26, go_sem, e3]) rfl ?_
    exact ringRes_none rfl rfl (HB.out.setCell (by show w.heap.size ≤ w.heap.size + 1; omega) _)
  · obtain ⟨h0, h16, hf, hd, b, off, B, O, C, B2, O2, C2, rfl, hat⟩ := ring_open h hr
    have HA := Lib.hid (fun u (hu : Below w.heap.size w u) => opposite_f b off n c B O C B2 O2 C2 f u (hat.below hu) (by omega))
    rw [hr] at HI
    clear h hr hat hf hd
    go_enter Try.func26, Try.ntmps26
    go_wp2_with fail
    rw [← HWe.out]
    refine (HI.out _ HW0.out).mono ?_
    rintro e w1 ⟨rfl, hb⟩
    have HB := Lib.hid (HW0.out.trans (hb.mono HW0.out.size))
    have HB0 := Lib.hid hb
    have e0 := (hb.cell (p := ⟨w.heap.size, 0, none⟩) (by rw [HWs.out]; show w.heap.size < _; omega)).trans KW.out
    clear hb
    go_wp2_with fail
    refine (HA.out _ HB.out).mono ?_
    rintro e w3 ⟨g, rfl, hc, hb3⟩
    have HB3 := Lib.hid (HB.out.trans (hb3.mono HB.out.size))
    have HC := Lib.hid hc
    have hr := RowB.below KR.out (HB0.out.trans (hb3.mono HB0.out.size)) (by rw [HWs.out]; omega)
    have e1 := RowB.cell hr (show 0 < 1 by omega)
    have e2 := RowB.frozen hr 0
    have e3 := RowB.cell (hr.set 0 (.slice (some ⟨g, 0, none⟩) n n)) (show 0 < 1 by omega)
    rw [if_pos rfl] at e3
    have HO := Lib.hid (show Only (fun q => q = w.heap.size + 1) w3 (w3.setCell ⟨w.heap.size + 1, 0, none⟩ (.slice (some ⟨g, 0, none⟩) n n)) from (Only.refl (fun q => q = w.heap.size + 1) w3).setCell (p := ⟨w.heap.size + 1, 0, none⟩) rfl _)
    have HL := Lib.hid (show w.heap.size + 2 ≤ w1.heap.size by have := HB0.out.size; have := HWs.out; omega)
    clear hb3 hc e0 hr
    go_wp2_with fail
    refine bodyPost_ret (v := .tuple #[.agg #[.slice (some ⟨g, 0, none⟩) n n], .int .i64 0]) (by simp [results, Try.results26, go_sem, e3]) rfl ?_
    refine ⟨some ⟨g, 0, none⟩, n, rfl, Or.inr ⟨g, rfl, ?_⟩, HB3.out.setCell (by show w.heap.size ≤ w.heap.size + 1; omega) _⟩
    rw [HO.out.size]
    exact (HC.out.only HO.out (fun k hk h => by have := HL.out; omega)).mono (by have := HL.out; omega) (Nat.le_refl _)
theorem implOpp_f_rows (n : Nat) (M : Nat → Nat) (L : Nat → Nat → Nat) (f : Nat → Nat → Nat → Int) : nRg (ringB n M L f) n ≤ 64 := nRg_le
theorem implOpp_f_cols (n : Nat) (M : Nat → Nat) (L : Nat → Nat → Nat) (f : Nat → Nat → Nat → Int) : ∀ i, i < nRg (ringB n M L f) n → n ≤ 64 := fun i hi => by
  have := nRg_le (n := n) (M := M) (L := L) (f := f)
  unfold nRg at *
  split at hi
  · rename_i h; rw [if_pos h] at this; exact this
  · omega
theorem implOpp_f_deep (n : Nat) (M : Nat → Nat) (L : Nat → Nat → Nat) (f : Nat → Nat → Nat → Int) : ∀ i, i < nRg (ringB n M L f) n → ∀ j, j < n → n ≤ 64 := fun i hi _ _ => implOpp_f_cols n M L f i hi
end Go.Proofs.Ytaffiohdjkbkkaa
