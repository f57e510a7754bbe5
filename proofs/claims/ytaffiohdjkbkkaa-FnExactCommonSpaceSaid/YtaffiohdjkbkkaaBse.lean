/- slices.Concat of two rows, beside, the ends of rows. -/
import Derived.Test.YtaffiohdjkbkkaaBsd
import Derived.Test.YtaffiohdjkbkkaaTail
namespace Go.Proofs.Ytaffiohdjkbkkaa
open Go.RowKit
set_option linter.unusedSimpArgs false
def sum2 (n m q : Nat) : Nat := if q = 0 then 0 else if q = 1 then n else n + m
def fun2 (n : Nat) (f g : Nat → Int) (q : Nat) : Nat → Int := if q = 2 then joinF n f g else f
theorem joinF_front {n : Nat} {f g : Nat → Int} {i : Nat} (h : i < n) : joinF n f g i = f i := if_pos h
theorem join0 (f0 f : Nat → Int) : joinF 0 f0 f = f := by
  funext i; unfold joinF; rw [if_neg (by omega)]; rfl
set_option maxRecDepth 100000 in
theorem concat_f (b0 n1 c1 n2 c2 : Nat) (a1 a2 : Option Addr) (f g : Nat → Int) (w : World) (hb0 : b0 < w.heap.size) (k0 : w.cell? ⟨b0, 0, none⟩ = some (.slice a1 n1 c1)) (k1 : w.cell? ⟨b0, 1, none⟩ = some (.slice a2 n2 c2)) (h1 : RdR w a1 n1 f) (h2 : RdR w a2 n2 g) (p1 : 0 < n1) (p2 : 0 < n2) (l1 : n1 ≤ 1000) (l2 : n2 ≤ 1000) :
    Calls Try.prog 193 #[.slice (some ⟨b0, 0, none⟩) 2 2] w (RetR 123 w (n1 + n2) (joinF n1 f g)) := by
  obtain ⟨b1, o1, rfl, hb1, hc1⟩ := h1.open p1
  obtain ⟨b2, o2, rfl, hb2, hc2⟩ := h2.open p2
  have H1 := Lib.hid hc1
  have H2 := Lib.hid hc2
  have K0 := Lib.hid k0
  have K1 := Lib.hid k1
  clear hc1 hc2 h1 h2 k0 k1
  go_enter Try.func193, Try.ntmps193
  go_wp2_with fail
  go_loopw [3, 11] (fun s i wr => ∃ q, q ≤ 2 ∧ i = .int .i64 (q : Nat) ∧ s = .int .i64 (sum2 n1 n2 q : Nat) ∧ wr = w) (fun _ i _ => 2 - (intOf i).toNat)
  case atStart => exact ⟨0, by omega, rfl, rfl, rfl⟩
  case round =>
    obtain ⟨q, hq, rfl, rfl, rfl⟩ := hrel
    obtain rfl | rfl | rfl : q = 0 ∨ q = 1 ∨ q = 2 := by omega
    · have e0 := K0.out
      simp only [sum2, if_pos]
      go_wp2_with fail
      exact ⟨⟨1, by omega, by go_num, by simp [sum2], trivial⟩, by simp [intOf]⟩
    · have e0 := K1.out
      simp only [sum2, if_pos, if_neg (show ¬ (1 : Nat) = 0 by omega)]
      go_wp2_with fail
      exact ⟨⟨2, by omega, by go_num, by simp [sum2], trivial⟩, by simp [intOf]⟩
    · simp only [sum2, if_neg (show ¬ (2 : Nat) = 0 by omega), if_neg (show ¬ (2 : Nat) = 1 by omega)]
      go_wp2_with fail
      refine (grow_f (n1 + n2) wr (by omega) (by omega)).mono ?_
      rintro e w1 ⟨c, rfl, hacc⟩
      have HA := Lib.hid hacc
      clear hacc
      obtain ⟨wo, hwo⟩ : ∃ x, x = wr := ⟨_, rfl⟩
      subst hwo
      go_wp2_with fail
      go_loopw [6, 27] (fun s i u => ∃ q g3 c3, q ≤ 2 ∧ i = .int .i64 (q : Nat) ∧ s = .slice (some ⟨g3, 0, none⟩) (sum2 n1 n2 q) c3 ∧ Acc wo u 123 s (sum2 n1 n2 q) (fun2 n1 f g q)) (fun _ i _ => 2 - (intOf i).toNat)
      case atStart => exact ⟨0, _, c, by omega, rfl, rfl, HA.out.start0 _⟩
      case round =>
        obtain ⟨q, g3, c3, hq, rfl, rfl, hacc⟩ := hrel
        have HC := Lib.hid hacc
        clear hacc
        obtain rfl | rfl | rfl : q = 0 ∨ q = 1 ∨ q = 2 := by omega
        · have e0 : wr.cell? ⟨b0, 0, none⟩ = some (.slice (some ⟨b1, o1, none⟩) n1 c1) := (HC.out.bel.cell (p := ⟨b0, 0, none⟩) hb0).trans K0.out
          have HX := Lib.hid (show ∀ i, i < n1 → wr.cell? ⟨b1, o1 + i, none⟩ = some (.int .i64 (f i)) from fun i hi => (HC.out.bel.cell (p := ⟨b1, o1 + i, none⟩) hb1).trans (H1.out i hi))
          simp only [sum2, if_pos]
          go_wp2_with (at_builtin; refine pushMoreN _ rfl _ _ rfl wo _ 0 _ rfl HC.out b1 o1 n1 c1 f rfl HX.out p1 (by omega) ?_; intro g4 c4 w4 hacc)
          have HD := Lib.hid hacc
          exact ⟨⟨1, g4, c4, by omega, by go_num, by simp [sum2], by simpa [sum2, fun2, join0] using HD.out⟩, by simp [intOf]⟩
        · have e0 : wr.cell? ⟨b0, 1, none⟩ = some (.slice (some ⟨b2, o2, none⟩) n2 c2) := (HC.out.bel.cell (p := ⟨b0, 1, none⟩) hb0).trans K1.out
          have HX := Lib.hid (show ∀ i, i < n2 → wr.cell? ⟨b2, o2 + i, none⟩ = some (.int .i64 (g i)) from fun i hi => (HC.out.bel.cell (p := ⟨b2, o2 + i, none⟩) hb2).trans (H2.out i hi))
          have HC' := Lib.hid (show Acc wo wr 123 (.slice (some ⟨g3, 0, none⟩) n1 c3) n1 f from HC.out)
          simp only [sum2, if_pos, if_neg (show ¬ (1 : Nat) = 0 by omega)]
          go_wp2_with (at_builtin; refine pushMoreN _ rfl _ _ rfl wo _ n1 _ rfl HC'.out b2 o2 n2 c2 g rfl HX.out p2 (by omega) ?_; intro g4 c4 w4 hacc)
          have HD := Lib.hid hacc
          exact ⟨⟨2, g4, c4, by omega, by go_num, by simp [sum2], by simpa [sum2, fun2] using HD.out⟩, by simp [intOf]⟩
        · have HC' := Lib.hid (show Acc wo wr 123 (.slice (some ⟨g3, 0, none⟩) (n1 + n2) c3) (n1 + n2) (joinF n1 f g) from HC.out)
          simp only [sum2, if_neg (show ¬ (2 : Nat) = 0 by omega), if_neg (show ¬ (2 : Nat) = 1 by omega)]
          go_wp2_with fail
          go_ret
          obtain ⟨d1, d2, d3, d4⟩ := HC'.out.done
          exact ⟨g3, c3, d2, d3, rfl, d1, d4, HC'.out.bel⟩
theorem cell_two0 (w : World) (v u : Value) (t : TypeId) : (w.alloc (.cells #[v, u] t)).cell? ⟨w.heap.size, 0, none⟩ = some v := by
  rw [World.cell?_alloc_at (w := w) #[v, u] t w.heap.size 0 rfl]
  rfl
theorem cell_two1 (w : World) (v u : Value) (t : TypeId) : (w.alloc (.cells #[v, u] t)).cell? ⟨w.heap.size, 1, none⟩ = some u := by
  rw [World.cell?_alloc_at (w := w) #[v, u] t w.heap.size 1 rfl]
  rfl
set_option maxHeartbeats 2000000 in
set_option maxRecDepth 100000 in
theorem beside_f (a1 a2 : Option Addr) (n m1 m2 c1 c2 : Nat) (f g : Nat → Nat → Int) (w : World) (h1 : RdM w a1 n (fun _ => m1) f) (h2 : RdM w a2 n (fun _ => m2) g) (p1 : 0 < m1) (p2 : 0 < m2) (hn : n ≤ 1000) (l1 : m1 ≤ 1000) (l2 : m2 ≤ 1000) :
    Calls Try.prog 168 #[.slice a1 n c1, .slice a2 n c2] w fun e w' => e = .returned (.slice (some ⟨w.heap.size, 0, none⟩) n n) ∧ (∃ C G : Nat → Nat, MatB w' 80 123 w.heap.size w.heap.size n (fun _ => m1 + m2) C G (fun i j => joinF m1 (f i) (g i) j)) ∧ Below w.heap.size w w' := by
  have hmk := run_make_row' (P := Try.prog) 78 80 (.slice none 0 0) 24 Try.underlying78 infoNums rfl .i64 .i64 n (by omega) (by omega)
  have H1 := Lib.hid h1
  have H2 := Lib.hid h2
  clear h1 h2
  go_enter Try.func168, Try.ntmps168
  go_wp2_with fail
  have Hmk := Lib.hid hmk
  clear hmk
  go_loopw [12] (fun i wr => ∃ (q : Nat) (C G : Nat → Nat), q ≤ n ∧ i = .int .i64 q ∧ MkM w wr 80 123 n q (fun _ => m1 + m2) C G (fun i j => joinF m1 (f i) (g i) j)) (fun i _ => n - (intOf i).toNat)
  case atStart => exact ⟨0, fun _ => 0, fun _ => 0, by omega, rfl, MkM.start _ _ _ _ _ _ _ _⟩
  case round =>
    obtain ⟨q, C', G', hq, rfl, hmk⟩ := hrel
    have HK := Lib.hid hmk
    clear hmk
    by_cases hlt : q < n
    · obtain ⟨b1, o1, A1, C1, rfl, hb1, hc1⟩ := H1.out.open (by omega)
      obtain ⟨b2, o2, A2, C2, rfl, hb2, hc2⟩ := H2.out.open (by omega)
      have e1 : wr.cell? ⟨b1, o1 + q, none⟩ = some (.slice (A1 q) m1 (C1 q)) := by
        rw [HK.out.bel.cell (p := ⟨b1, o1 + q, none⟩) hb1]; exact (hc1 q hlt).1
      have e2 : wr.cell? ⟨b2, o2 + q, none⟩ = some (.slice (A2 q) m2 (C2 q)) := by
        rw [HK.out.bel.cell (p := ⟨b2, o2 + q, none⟩) hb2]; exact (hc2 q hlt).1
      have Hr1 := Lib.hid ((hc1 q hlt).2.below HK.out.bel (Nat.le_refl _))
      have Hr2 := Lib.hid ((hc2 q hlt).2.below HK.out.bel (Nat.le_refl _))
      clear hc1 hc2
      generalize A1 q = aq1 at *
      generalize C1 q = cq1 at *
      generalize A2 q = aq2 at *
      generalize C2 q = cq2 at *
      go_wp2_with fail
      refine wp_region_any (by kernel_rfl) ?_
      refine wpAny_take (i := 0) (v := ?va1) rfl (by kernel_rfl) (by kernel_rfl) (by kernel_rfl) (fun _ _ _ h => h) (Or.inl ⟨by rfl, ?hya1⟩) ?_
      case hya1 => intro w; go_simp; try rfl
      refine wpAny_take (i := 1) (v := ?vb1) rfl (by kernel_rfl) (by kernel_rfl) (by kernel_rfl) (fun _ _ _ h => h) (Or.inl ⟨by rfl, ?hyb1⟩) ?_
      case hyb1 => intro w; go_simp; try rfl
      refine wpAny_still_tail 2 10 (by kernel_rfl) (by kernel_rfl) ?_
      simp only [List.take_succ_cons, List.take_zero, List.drop_succ_cons, List.drop_zero]
      repeat still_step
      refine wpStill_nil ?_
      change wpList _ _ _ _ _ wr.drew
      have HBq := Lib.hid (show Below wr.heap.size wr wr.drew from (Below.refl _ _).drew)
      obtain ⟨wq, hwq⟩ : ∃ x, x = wr.drew := ⟨_, rfl⟩
      rw [← hwq] at HBq
      rw [← hwq]
      clear hwq e1 e2
      go_wp2_with fail
      refine (concat_f _ m1 cq1 m2 cq2 aq1 aq2 (f q) (g q) _ ?_ ?_ ?_ ?_ ?_ p1 p2 l1 l2).mono ?_
      · simp
      · exact cell_two0 _ _ _ _
      · exact cell_two1 _ _ _ _
      · exact Hr1.out.below (HBq.out.trans (below_alloc wq _ |>.mono HBq.out.size)) (Nat.le_refl _)
      · exact Hr2.out.below (HBq.out.trans (below_alloc wq _ |>.mono HBq.out.size)) (Nat.le_refl _)
      rintro e w1 ⟨g2, c2, y1, y2, rfl, y3, hrow, hb1⟩
      have HB1 := Lib.hid (HBq.out.trans (((below_alloc wq (.cells #[.slice aq1 m1 cq1, .slice aq2 m2 cq2] 80)).trans (hb1.mono (by simp))).mono HBq.out.size))
      have Y3 := Lib.hid (show wr.heap.size ≤ g2 from by have := HBq.out.size; simp at y3; omega)
      have HK1 := Lib.hid (HK.out.kept HB1.out)
      have HR := Lib.hid hrow
      clear hrow hb1 y3
      have hcd := RowB.cell HK1.out.outer hlt
      have hfd := RowB.frozen HK1.out.outer q
      go_wp2_with fail
      have HP := Lib.hid (HK.out.push (by decide) HB1.out Y3.out HR.out rfl y1 y2)
      go_roundw
      case rel => exact ⟨q + 1, _, _, by omega, by go_num, HP.out⟩
      case measure => simp [intOf]; omega
    · obtain rfl : q = n := by omega
      go_wp2_with fail
      go_ret
      exact ⟨rfl, ⟨_, _, HK.out.done⟩, HK.out.bel⟩
end Go.Proofs.Ytaffiohdjkbkkaa
