/- The adjoint subring of a subring: of the program. -/
import Derived.Test.YtpfodikmidgpmaaDoorSbD
namespace Go.Proofs.YtpfodikmidgpmaaDoor
open Go.RowKit
set_option linter.unusedSimpArgs false
set_option linter.unusedVariables false
attribute [local go_sem] Oper.semAt_some
/-- what occurs in a product, if 0 does -/
def od (o : Nat → Nat → Nat) (i j : Nat) : Nat := if (o i j).testBit 0 = true then o i j else 0
theorem od_lt {n : Nat} {f : Nat → Nat → Nat → Int} (i j : Nat) : od (occ n f) i j < 2 ^ n := by
  unfold od; split
  · exact occ_lt _ _ _ _
  · exact Nat.pow_pos (by omega)
theorem prl_od_lt {n : Nat} {f : Nat → Nat → Nat → Int} {xs ys : List Nat} : prl (od (occ n f)) xs ys < 2 ^ n := by
  have : ∀ (xs : List Nat) (s : Nat), s < 2 ^ n → xs.foldl (fun s i => orl (od (occ n f) i) s ys) s < 2 ^ n := by
    intro xs
    induction xs with
    | nil => exact fun _ h => h
    | cons x xs ih => exact fun s h => ih _ (orl_lt h fun j _ => od_lt x j)
  exact this xs 0 (Nat.pow_pos (by omega))
set_option maxRecDepth 100000 in
set_option maxHeartbeats 4000000 in
theorem adjoint_f (b off n c : Nat) (B O C : Nat → Nat) (f : Nat → Nat → Nat → Int) (s : Nat) (w : World) (h : OccP w b off n B O C (occ n f)) (h0 : 0 < n) (h16 : n ≤ 16) (hs : s < 2 ^ n) :
    Calls Tryd.prog 50 #[.slice (some ⟨b, off, none⟩) n c, .int .i64 s] w fun e w' => ∃ g, e = .returned (.int .i64 (g : Nat)) ∧ IsGen n f (prl (od (occ n f)) (lbl s) (lbl s)) g ∧ Below w.heap.size w w' := by
  have hp := pow_le16 h16
  have hs6 : s < 65536 := by omega
  have HOW := Lib.hid h
  refine (callsIn_wide (n := 9)).1 ?_
  refine callsIn_of_wp_marks Tryd.func50 rfl trivial ?_ rfl
  simp only [Tryd.ntmps50, List.size_toArray, List.length_cons, List.length_nil, Nat.reduceAdd, Nat.reduceSub, Array.replicate_succ, Array.replicate_zero, List.push_toArray, List.append_toArray, List.nil_append, List.cons_append]
  gi_wp2_with (refine ⟨trivial, ?_⟩; gi_at_call 59; refine (callsIn_wide.2 (labels_f s _)).mono ?_; rintro e w1 ⟨rfl, rfl⟩)
  have b0 := (((Boxed.new w 43 (.slice (some ⟨b, off, none⟩) n c)).alloc (.cells #[.int .i64 s] 59)).alloc (.cells #[.int .i64 0] 59)).alloc (.cells #[.int .i64 s] 59)
  have b1 := ((Boxed.new (w.alloc (.cells #[.slice (some ⟨b, off, none⟩) n c] 43)) 59 (.int .i64 s)).alloc (.cells #[.int .i64 0] 59)).alloc (.cells #[.int .i64 s] 59)
  have b2 := (Boxed.new ((w.alloc (.cells #[.slice (some ⟨b, off, none⟩) n c] 43)).alloc (.cells #[.int .i64 s] 59)) 59 (.int .i64 0)).alloc (.cells #[.int .i64 s] 59)
  have b3 := Boxed.new (((w.alloc (.cells #[.slice (some ⟨b, off, none⟩) n c] 43)).alloc (.cells #[.int .i64 s] 59)).alloc (.cells #[.int .i64 0] 59)) 59 (.int .i64 s)
  simp only [World.size_alloc] at b1 b2 b3 ⊢
  have hB0 : Below w.heap.size w ((((w.alloc (.cells #[.slice (some ⟨b, off, none⟩) n c] 43)).alloc (.cells #[.int .i64 s] 59)).alloc (.cells #[.int .i64 0] 59)).alloc (.cells #[.int .i64 s] 59)) := ((((Below.refl _ w).alloc (Nat.le_refl _) _).alloc (by simp) _).alloc (by simp; omega) _).alloc (by simp; omega) _
  have hsz : ((((w.alloc (.cells #[.slice (some ⟨b, off, none⟩) n c] 43)).alloc (.cells #[.int .i64 s] 59)).alloc (.cells #[.int .i64 0] 59)).alloc (.cells #[.int .i64 s] 59)).heap.size = w.heap.size + 4 := by simp
  obtain ⟨W0, hW0⟩ : ∃ W0, ((((w.alloc (.cells #[.slice (some ⟨b, off, none⟩) n c] 43)).alloc (.cells #[.int .i64 s] 59)).alloc (.cells #[.int .i64 0] 59)).alloc (.cells #[.int .i64 s] 59)) = W0 := ⟨_, rfl⟩
  rw [hW0] at b0 b1 b2 b3 hB0 hsz ⊢
  clear hW0
  have HO := Lib.hid h
  clear h
  refine wpIn_rangeFunc_ownH (α := Fin n) rfl (by omega) (gf := 66) (lb := #[.pointer (some ⟨w.heap.size + 1 + 1 + 1, 0, none⟩)]) rfl trivial (enters_of Tryd.func66 (by kernel_rfl) rfl)
    (labels_stops (9 - 1) (w.heap.size + 1 + 1 + 1) s n hs6 hs W0 b3) keepB_t keepB_b (Below.refl _ _) (fun _ => rfl)
    (fun pre W => (((Boxed W (w.heap.size + 1 + 1) 59 (.int .i64 ((prl (od (occ n f)) (nums pre) (lbl s)) : Nat)) ∧ Boxed W w.heap.size 43 (.slice (some ⟨b, off, none⟩) n c)) ∧ Boxed W (w.heap.size + 1) 59 (.int .i64 s)) ∧ Boxed W (w.heap.size + 1 + 1 + 1) 59 (.int .i64 s)) ∧ Below w.heap.size w W)
    (fun _ _ _ => False)
    (OwnFrom.and (OwnFrom.and (OwnFrom.and (OwnFrom.and (Own.from (boxed_own _ _ _) _) (Own.from (boxed_own _ _ _) _)) (Own.from (boxed_own _ _ _) _)) (Own.from (boxed_own _ _ _) _)) (ownFrom_below (Nat.le_refl _) (by omega)))
    (fun _ _ _ _ _ hs _ _ => hs)
    ⟨⟨⟨⟨b2, b0⟩, b1⟩, b3⟩, hB0⟩
    (fun x a' W => ∃ Bx, w.heap.size + 3 < Bx ∧ Boxed W Bx 2 (.int .i64 (x.val : Nat)) ∧ a' = { tmps := #[.slice (some ⟨b, off, none⟩) n c, .int .i64 s, .pointer (some ⟨w.heap.size, 0, none⟩), .pointer (some ⟨w.heap.size + 1, 0, none⟩), .int .i64 0, .pointer (some ⟨w.heap.size + 1 + 1, 0, none⟩), .pointer (some ⟨Bx, 0, none⟩), undef, .int .i64 s, .func (.func 66) #[] #[.pointer (some ⟨w.heap.size + 1 + 1 + 1, 0, none⟩)], .int .i64 (x.val : Nat), undef, undef, undef, undef, undef, undef, undef, undef, undef, undef, undef, undef, undef, undef, undef, undef, undef, undef, undef, undef, undef, undef, undef], defers := [] })
    (fun x a' _ X Y row hs hg hr => by obtain ⟨Bx, h1, h2, h3⟩ := hs; exact ⟨Bx, h1, boxed_own Bx 2 (fun (_ : Unit) => Value.int .i64 (x.val : Nat)) () X Y row h2 hg (fun r e => (hr r e).2), h3⟩)
    ?assign ?body ?done ?stop
  case assign =>
    rintro l pre x W K ⟨⟨⟨⟨bS1, bO1⟩, bT1⟩, bA1⟩, hB1⟩ hK
    gi_wp2
    exact hK _ _ ((KeepsOthers.alloc _ _).from _) (fun q => q.alloc _) ⟨⟨⟨⟨bS1.alloc _, bO1.alloc _⟩, bT1.alloc _⟩, bA1.alloc _⟩, hB1.alloc hB1.size _⟩ ⟨W.heap.size, bA1.lt, Boxed.new W 2 _, rfl⟩
  case body =>
    rintro l pre x a' W hl ⟨r, hr⟩ ⟨⟨⟨⟨bS1, bO1⟩, bT1⟩, bA1⟩, hB1⟩ ⟨Bx, hBx, bX, rfl⟩ hlt
    have cT := bT1.cell
    gi_wp2_with (refine ⟨trivial, ?_⟩; gi_at_call 59; refine (CallsIn.inRound l (callsIn_wide.2 (labels_f s _))).mono ?_; rintro e w' ⟨rfl, rfl⟩)
    have hsW := hB1.size
    have bN := Boxed.new W 59 (.int .i64 s)
    have hr' : (W.alloc (.cells #[.int .i64 s] 59)).heap[l]? = some (.loop r) := (Below.heap_alloc W _ l (Array.getElem?_eq_some_iff.1 hr).1).trans hr
    have hxl := x.isLt
    refine wpIn_rangeFunc_ownN (α := Fin n) (l₀ := l) (r₀ := r) rfl hr' (by omega) (gf := 66) (lb := #[.pointer (some ⟨W.heap.size, 0, none⟩)]) rfl trivial (enters_of Tryd.func66 (by kernel_rfl) rfl)
      ((labels_stops (9 - 1 - 1 - 1) W.heap.size s n hs6 hs _ bN).inRound l) keepB_t keepB_b (Below.refl _ _) (fun _ => rfl)
      (fun pre' W' => (((((Boxed W' (w.heap.size + 1 + 1) 59 (.int .i64 ((orl (od (occ n f) x.val) (prl (od (occ n f)) (nums pre) (lbl s)) (nums pre')) : Nat)) ∧ Boxed W' w.heap.size 43 (.slice (some ⟨b, off, none⟩) n c)) ∧ Boxed W' (w.heap.size + 1) 59 (.int .i64 s)) ∧ Boxed W' (w.heap.size + 1 + 1 + 1) 59 (.int .i64 s)) ∧ Boxed W' Bx 2 (.int .i64 (x.val : Nat))) ∧ Boxed W' W.heap.size 59 (.int .i64 s)) ∧ (Below w.heap.size W W' ∧ KeepsFrom W0.heap.size W W'))
      (fun _ _ _ => False)
      (OwnFrom.and (OwnFrom.and (OwnFrom.and (OwnFrom.and (OwnFrom.and (OwnFrom.and (Own.from (boxed_own _ _ _) _) (Own.from (boxed_own _ _ _) _)) (Own.from (boxed_own _ _ _) _)) (Own.from (boxed_own _ _ _) _)) (Own.from (boxed_own _ _ _) _)) (Own.from (boxed_own _ _ _) _)) (OwnFrom.and (ownFrom_below hsW (by simp; omega)) (ownFrom_keepsFrom (by simp))))
      (fun _ _ _ _ _ hs _ _ => hs)
      ⟨⟨⟨⟨⟨⟨bS1.alloc _, bO1.alloc _⟩, bT1.alloc _⟩, bA1.alloc _⟩, bX.alloc _⟩, bN⟩, (Below.refl _ W).alloc hsW _, (KeepsOthers.alloc _ _).from _⟩
      (fun y a'' _ => a'' = { tmps := #[.slice (some ⟨b, off, none⟩) n c, .int .i64 s, .pointer (some ⟨w.heap.size, 0, none⟩), .pointer (some ⟨w.heap.size + 1, 0, none⟩), .int .i64 0, .pointer (some ⟨w.heap.size + 1 + 1, 0, none⟩), .pointer (some ⟨Bx, 0, none⟩), .int .i64 (y.val : Nat), .int .i64 s, .func (.func 66) #[] #[.pointer (some ⟨w.heap.size + 1 + 1 + 1, 0, none⟩)], .int .i64 (x.val : Nat), .int .i64 s, .func (.func 66) #[] #[.pointer (some ⟨W.heap.size, 0, none⟩)], .int .i64 (y.val : Nat), undef, undef, undef, undef, undef, undef, undef, undef, undef, undef, undef, undef, undef, undef, undef, undef, undef, undef, undef, undef], defers := [] })
      (fun _ _ _ _ _ _ hs _ _ => hs)
      ?assign2 ?body2 ?done2 ?stop2
    case assign2 =>
      rintro l2 pre' y W' K hi hK
      gi_wp2
      exact hK _ _ (KeepsFrom.refl _ _) (fun q => q) hi rfl
    case body2 =>
      rintro l2 pre' y a'' W' _ _ ⟨⟨⟨⟨⟨⟨bS2, bO2⟩, bT2⟩, bA2⟩, bX2⟩, bN2⟩, hBW, hKF⟩ rfl _
      have q1 := bA1.lt
      have cS := bS2.cell
      have fS := bS2.frozen
      have cO := bO2.cell
      have cX := bX2.cell
      have hyl := y.isLt
      obtain ⟨hblt, hOx⟩ := HO.out
      obtain ⟨e1, hBlt, e2⟩ := hOx x.val hxl
      have hBw := hB1.trans hBW
      have c1 := (hBw.cell (p := ⟨b, off + x.val, none⟩) hblt).trans e1
      have c2 := (hBw.cell (p := ⟨B x.val, O x.val + y.val, none⟩) hBlt).trans (e2 y.val hyl)
      clear hOx e1 e2
      have hmx : Tryd.prog.follows .mixedOrders = true := by kernel_rfl
      have g1 : (orl (od (occ n f) x.val) (prl (od (occ n f)) (nums pre) (lbl s)) (nums pre')) < 65536 := Nat.lt_of_lt_of_le (orl_lt prl_od_lt fun j _ => od_lt _ _) hp
      have g2 : occ n f x.val y.val < 65536 := Nat.lt_of_lt_of_le (occ_lt _ _ _ _) hp
      have hor := or_i64 (show (orl (od (occ n f) x.val) (prl (od (occ n f)) (nums pre) (lbl s)) (nums pre')) < 4611686018427387904 by omega) (show occ n f x.val y.val < 4611686018427387904 by omega)
      cases hbit : (occ n f x.val y.val).testBit 0
      · have HN := Lib.hid (show od (occ n f) x.val y.val = 0 by unfold od; rw [hbit]; rfl)
        gi_wp2_with (refine ⟨trivial, ?_⟩; gi_at_call 60; refine (CallsIn.inRound l2 (callsIn_wide.2 (has_f (occ n f x.val y.val) 0 g2 (by omega) _))).mono ?_; rintro e w3 ⟨rfl, rfl⟩; rw [hbit])
        refine ⟨KeepsFrom.refl _ _, fun q => q, ⟨⟨⟨⟨⟨?_, bO2⟩, bT2⟩, bA2⟩, bX2⟩, bN2⟩, hBW, by first | exact hKF | (rw [← hsz]; exact hKF)⟩
        rw [nums_snoc, orl_snoc, HN.out, Nat.or_zero]
        exact bS2
      · have HN := Lib.hid (show od (occ n f) x.val y.val = occ n f x.val y.val by unfold od; rw [hbit]; rfl)
        gi_wp2_with (refine ⟨trivial, ?_⟩; gi_at_call 60; refine (CallsIn.inRound l2 (callsIn_wide.2 (has_f (occ n f x.val y.val) 0 g2 (by omega) _))).mono ?_; rintro e w3 ⟨rfl, rfl⟩; rw [hbit])
        refine region_round hmx (by kernel_rfl) ?_
        refine wpAny_still_tail 0 9 (by kernel_rfl) (by kernel_rfl) ?_
        simp only [List.take_succ_cons, List.take_zero, List.drop_succ_cons, List.drop_zero]
        repeat still_step
        refine wpStill_nil ?_
        change wpList _ _ _ _ _ W'.drew
        go_wp2_with fail
        refine ⟨rfl, ?_⟩
        gi_wp2
        refine ⟨((KeepsOthers.setCell _ _ _).trans (KeepsOthers.drew _)).from _, fun _ => bN2.other (by omega) _, ⟨⟨⟨⟨⟨?_, bO2.other (by omega) _⟩, bT2.other (by omega) _⟩, bA2.other (by omega) _⟩, bX2.other (by omega) _⟩, bN2.other (by omega) _⟩, (hBW.setCell (p := ⟨w.heap.size + 1 + 1, 0, none⟩) (by simp; omega) _).drew, by first | exact hKF.trans (((KeepsOthers.setCell _ _ _).trans (KeepsOthers.drew _)).from _) | (rw [← hsz]; exact hKF.trans (((KeepsOthers.setCell _ _ _).trans (KeepsOthers.drew _)).from _))⟩
        rw [nums_snoc, orl_snoc, HN.out]
        exact bS2.set _
    case done2 =>
      rintro ys' W' hz ⟨⟨⟨⟨⟨⟨bS2, bO2⟩, bT2⟩, bA2⟩, bX2⟩, bN2⟩, hBW, hKF⟩
      gi_wp2
      exact ⟨hKF, fun _ => bA2, ⟨⟨⟨⟨by rw [nums_snoc, prl_snoc]; rw [hz] at bS2; exact bS2, bO2⟩, bT2⟩, bA2⟩, hB1.trans hBW⟩⟩
    case stop2 =>
      rintro c pre' W' _ h
      exact h.elim
  case done =>
    rintro D zs W hD hz ⟨⟨⟨⟨bS1, bO1⟩, bT1⟩, bA1⟩, hB1⟩ hK
    rw [hz] at bS1
    have cS := bS1.cell
    have cO := bO1.cell
    have HG := Lib.hid (generated_f b off n c B O C f (prl (od (occ n f)) (lbl s) (lbl s)) W (HOW.out.below hB1 (Nat.le_refl _)) h0 h16 prl_od_lt)
    gi_wp2_with (refine ⟨trivial, ?_⟩; gi_at_call 62; refine (callsIn_wide.2 HG.out).mono ?_; rintro e w3 ⟨g, rfl, hg, hb3⟩; have HGG := Lib.hid hg; have HB3 := Lib.hid hb3; clear hg hb3)
    have hDl := (Array.getElem?_eq_some_iff.1 hK).1
    have hK3 := (HB3.out.block D hDl).trans hK
    refine ⟨by simp, .inl ⟨_, _, rfl, run_takeDeferred hK3, ?_⟩⟩
    refine ⟨_, results_tmp rfl _ _ _, g, rfl, HGG.out, (hB1.trans (HB3.out.mono hB1.size)).trans (belowK_b (w := w) (Nat.le_refl _) _ D _ _ (by omega) hK3 rfl rfl)⟩
  case stop =>
    rintro D c pre W _ _ h _
    exact h.elim
end Go.Proofs.YtpfodikmidgpmaaDoor
