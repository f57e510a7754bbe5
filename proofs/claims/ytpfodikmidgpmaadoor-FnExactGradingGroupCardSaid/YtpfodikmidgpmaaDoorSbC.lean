/- Whether a set is closed under products: of the program. -/
import Derived.Test.YtpfodikmidgpmaaDoorSbB
namespace Go.Proofs.YtpfodikmidgpmaaDoor
open Go.RowKit
set_option linter.unusedSimpArgs false
set_option linter.unusedVariables false
attribute [local go_sem] Oper.semAt_some
/-- all that occurs in products of labels of s is in s -/
def ClO (o : Nat → Nat → Nat) (s : Nat) : Prop := ∀ i ∈ lbl s, ∀ j ∈ lbl s, subS (o i j) s
set_option maxRecDepth 100000 in
set_option maxHeartbeats 4000000 in
theorem isClosed_f (b off n c : Nat) (B O C : Nat → Nat) (o : Nat → Nat → Nat) (s : Nat) (w : World) (h : OccP w b off n B O C o) (h16 : n ≤ 16) (hs : s < 2 ^ n) (ho : ∀ i j, i < n → j < n → o i j < 65536) :
    Calls Tryd.prog 67 #[.slice (some ⟨b, off, none⟩) n c, .int .i64 s] w fun e w' => ∃ r, e = .returned (.bool r) ∧ (r = true ↔ ClO o s) ∧ Below w.heap.size w w' := by
  have hp := pow_le16 h16
  have hs6 : s < 65536 := by omega
  refine (callsIn_wide (n := 9)).1 ?_
  refine callsIn_of_wp_marks Tryd.func67 rfl trivial ?_ rfl
  simp only [Tryd.ntmps67, List.size_toArray, List.length_cons, List.length_nil, Nat.reduceAdd, Nat.reduceSub, Array.replicate_succ, Array.replicate_zero, List.push_toArray, List.append_toArray, List.nil_append, List.cons_append]
  gi_wp2_with (refine ⟨trivial, ?_⟩; gi_at_call 59; refine (callsIn_wide.2 (labels_f s _)).mono ?_; rintro e w1 ⟨rfl, rfl⟩)
  have b0 := (((Boxed.new w 43 (.slice (some ⟨b, off, none⟩) n c)).alloc (.cells #[.int .i64 s] 59)).alloc (.cells #[.bool false] 4)).alloc (.cells #[.int .i64 s] 59)
  have b1 := ((Boxed.new (w.alloc (.cells #[.slice (some ⟨b, off, none⟩) n c] 43)) 59 (.int .i64 s)).alloc (.cells #[.bool false] 4)).alloc (.cells #[.int .i64 s] 59)
  have b2 := (Boxed.new ((w.alloc (.cells #[.slice (some ⟨b, off, none⟩) n c] 43)).alloc (.cells #[.int .i64 s] 59)) 4 (.bool false)).alloc (.cells #[.int .i64 s] 59)
  have b3 := Boxed.new (((w.alloc (.cells #[.slice (some ⟨b, off, none⟩) n c] 43)).alloc (.cells #[.int .i64 s] 59)).alloc (.cells #[.bool false] 4)) 59 (.int .i64 s)
  simp only [World.size_alloc] at b1 b2 b3 ⊢
  have hB0 : Below w.heap.size w ((((w.alloc (.cells #[.slice (some ⟨b, off, none⟩) n c] 43)).alloc (.cells #[.int .i64 s] 59)).alloc (.cells #[.bool false] 4)).alloc (.cells #[.int .i64 s] 59)) := ((((Below.refl _ w).alloc (Nat.le_refl _) _).alloc (by simp) _).alloc (by simp; omega) _).alloc (by simp; omega) _
  have hsz : ((((w.alloc (.cells #[.slice (some ⟨b, off, none⟩) n c] 43)).alloc (.cells #[.int .i64 s] 59)).alloc (.cells #[.bool false] 4)).alloc (.cells #[.int .i64 s] 59)).heap.size = w.heap.size + 4 := by simp
  obtain ⟨W0, hW0⟩ : ∃ W0, ((((w.alloc (.cells #[.slice (some ⟨b, off, none⟩) n c] 43)).alloc (.cells #[.int .i64 s] 59)).alloc (.cells #[.bool false] 4)).alloc (.cells #[.int .i64 s] 59)) = W0 := ⟨_, rfl⟩
  rw [hW0] at b0 b1 b2 b3 hB0 hsz ⊢
  clear hW0
  have HO := Lib.hid h
  clear h
  refine wpIn_rangeFunc_ownH (α := Fin n) rfl (by omega) (gf := 66) (lb := #[.pointer (some ⟨w.heap.size + 1 + 1 + 1, 0, none⟩)]) rfl trivial (enters_of Tryd.func66 (by kernel_rfl) rfl)
    (labels_stops (9 - 1) (w.heap.size + 1 + 1 + 1) s n hs6 hs W0 b3) keepB_t keepB_b (Below.refl _ _) (fun _ => rfl)
    (fun pre W => ((((((∀ i ∈ nums pre, ∀ j ∈ lbl s, subS (o i j) s)) ∧ Boxed W (w.heap.size + 1 + 1) 4 (.bool false)) ∧ Boxed W w.heap.size 43 (.slice (some ⟨b, off, none⟩) n c)) ∧ Boxed W (w.heap.size + 1) 59 (.int .i64 s)) ∧ Boxed W (w.heap.size + 1 + 1 + 1) 59 (.int .i64 s)) ∧ Below w.heap.size w W)
    (fun c pre W => ((c = .ret ∧ ∃ i ∈ nums pre, ∃ j ∈ lbl s, ¬ subS (o i j) s) ∧ Boxed W (w.heap.size + 1 + 1) 4 (.bool false)) ∧ Below w.heap.size w W)
    (OwnFrom.and (OwnFrom.and (OwnFrom.and (OwnFrom.and (OwnFrom.and (ownFrom_pure _ _) (Own.from (boxed_own _ _ _) _)) (Own.from (boxed_own _ _ _) _)) (Own.from (boxed_own _ _ _) _)) (Own.from (boxed_own _ _ _) _)) (ownFrom_below (Nat.le_refl _) (by omega)))
    (fun c => OwnFrom.and (OwnFrom.and (ownFrom_pure _ _) (Own.from (boxed_own _ _ _) _)) (ownFrom_below (Nat.le_refl _) (by omega)))
    ⟨⟨⟨⟨⟨by simp [nums], b2⟩, b0⟩, b1⟩, b3⟩, hB0⟩
    (fun x a' W => ∃ Bx, w.heap.size + 3 < Bx ∧ Boxed W Bx 2 (.int .i64 (x.val : Nat)) ∧ a' = { tmps := #[.slice (some ⟨b, off, none⟩) n c, .int .i64 s, .pointer (some ⟨w.heap.size, 0, none⟩), .pointer (some ⟨w.heap.size + 1, 0, none⟩), .pointer (some ⟨w.heap.size + 1 + 1, 0, none⟩), .pointer (some ⟨Bx, 0, none⟩), undef, .int .i64 s, .func (.func 66) #[] #[.pointer (some ⟨w.heap.size + 1 + 1 + 1, 0, none⟩)], .int .i64 (x.val : Nat), undef, undef, undef, undef, undef, undef, undef, undef, undef, undef, undef, undef, undef], defers := [] })
    (fun x a' _ X Y row hs hg hr => by obtain ⟨Bx, h1, h2, h3⟩ := hs; exact ⟨Bx, h1, boxed_own Bx 2 (fun (_ : Unit) => Value.int .i64 (x.val : Nat)) () X Y row h2 hg (fun r e => (hr r e).2), h3⟩)
    ?assign ?body ?done ?stop
  case assign =>
    rintro l pre x W K ⟨⟨⟨⟨⟨hq, bS1⟩, bO1⟩, bT1⟩, bA1⟩, hB1⟩ hK
    gi_wp2
    exact hK _ _ ((KeepsOthers.alloc _ _).from _) (fun q => q.alloc _) ⟨⟨⟨⟨⟨hq, bS1.alloc _⟩, bO1.alloc _⟩, bT1.alloc _⟩, bA1.alloc _⟩, hB1.alloc hB1.size _⟩ ⟨W.heap.size, bA1.lt, Boxed.new W 2 _, rfl⟩
  case body =>
    rintro l pre x a' W hl ⟨r, hr⟩ ⟨⟨⟨⟨⟨hq, bS1⟩, bO1⟩, bT1⟩, bA1⟩, hB1⟩ ⟨Bx, hBx, bX, rfl⟩ hlt
    have HQ := Lib.hid hq
    clear hq
    have cT := bT1.cell
    gi_wp2_with (refine ⟨trivial, ?_⟩; gi_at_call 59; refine (CallsIn.inRound l (callsIn_wide.2 (labels_f s _))).mono ?_; rintro e w' ⟨rfl, rfl⟩)
    have hsW := hB1.size
    have bN := Boxed.new W 59 (.int .i64 s)
    have hr' : (W.alloc (.cells #[.int .i64 s] 59)).heap[l]? = some (.loop r) := (Below.heap_alloc W _ l (Array.getElem?_eq_some_iff.1 hr).1).trans hr
    have hxl := x.isLt
    refine wpIn_rangeFunc_ownN (α := Fin n) (l₀ := l) (r₀ := r) rfl hr' (by omega) (gf := 66) (lb := #[.pointer (some ⟨W.heap.size, 0, none⟩)]) rfl trivial (enters_of Tryd.func66 (by kernel_rfl) rfl)
      ((labels_stops (9 - 1 - 1 - 1) W.heap.size s n hs6 hs _ bN).inRound l) keepB_t keepB_b (Below.refl _ _) (fun _ => rfl)
      (fun pre' W' => (((((((∀ j ∈ nums pre', subS (o x.val j) s)) ∧ Boxed W' (w.heap.size + 1 + 1) 4 (.bool false)) ∧ Boxed W' w.heap.size 43 (.slice (some ⟨b, off, none⟩) n c)) ∧ Boxed W' (w.heap.size + 1) 59 (.int .i64 s)) ∧ Boxed W' (w.heap.size + 1 + 1 + 1) 59 (.int .i64 s)) ∧ Boxed W' Bx 2 (.int .i64 (x.val : Nat))) ∧ (Below w.heap.size W W' ∧ KeepsFrom W0.heap.size W W'))
      (fun c pre' W' => ((c = .ret ∧ ∃ j ∈ nums pre', ¬ subS (o x.val j) s) ∧ Boxed W' (w.heap.size + 1 + 1) 4 (.bool false)) ∧ (Below w.heap.size W W' ∧ KeepsFrom W0.heap.size W W'))
      (OwnFrom.and (OwnFrom.and (OwnFrom.and (OwnFrom.and (OwnFrom.and (OwnFrom.and (ownFrom_pure _ _) (Own.from (boxed_own _ _ _) _)) (Own.from (boxed_own _ _ _) _)) (Own.from (boxed_own _ _ _) _)) (Own.from (boxed_own _ _ _) _)) (Own.from (boxed_own _ _ _) _)) (OwnFrom.and (ownFrom_below hsW (by simp; omega)) (ownFrom_keepsFrom (by simp))))
      (fun c => OwnFrom.and (OwnFrom.and (ownFrom_pure _ _) (Own.from (boxed_own _ _ _) _)) (OwnFrom.and (ownFrom_below hsW (by simp; omega)) (ownFrom_keepsFrom (by simp))))
      ⟨⟨⟨⟨⟨⟨by simp [nums], bS1.alloc _⟩, bO1.alloc _⟩, bT1.alloc _⟩, bA1.alloc _⟩, bX.alloc _⟩, (Below.refl _ W).alloc hsW _, (KeepsOthers.alloc _ _).from _⟩
      (fun y a'' _ => a'' = { tmps := #[.slice (some ⟨b, off, none⟩) n c, .int .i64 s, .pointer (some ⟨w.heap.size, 0, none⟩), .pointer (some ⟨w.heap.size + 1, 0, none⟩), .pointer (some ⟨w.heap.size + 1 + 1, 0, none⟩), .pointer (some ⟨Bx, 0, none⟩), .int .i64 (y.val : Nat), .int .i64 s, .func (.func 66) #[] #[.pointer (some ⟨w.heap.size + 1 + 1 + 1, 0, none⟩)], .int .i64 (x.val : Nat), .int .i64 s, .func (.func 66) #[] #[.pointer (some ⟨W.heap.size, 0, none⟩)], .int .i64 (y.val : Nat), undef, undef, undef, undef, undef, undef, undef, undef, undef, undef], defers := [] })
      (fun _ _ _ _ _ _ hs _ _ => hs)
      ?assign2 ?body2 ?done2 ?stop2
    case assign2 =>
      rintro l2 pre' y W' K hi hK
      gi_wp2
      exact hK _ _ (KeepsFrom.refl _ _) (fun q => q) hi rfl
    case body2 =>
      rintro l2 pre' y a'' W' _ _ ⟨⟨⟨⟨⟨⟨hq2, bS2⟩, bO2⟩, bT2⟩, bA2⟩, bX2⟩, hBW, hKF⟩ rfl _
      have HQ2 := Lib.hid hq2
      clear hq2
      have q1 := bA1.lt
      have cS := bS2.cell
      have fS := bS2.frozen
      have cO := bO2.cell
      have cX := bX2.cell
      have cT2 := bT2.cell
      have hyl := y.isLt
      obtain ⟨hblt, hOx⟩ := HO.out
      obtain ⟨e1, hBlt, e2⟩ := hOx x.val hxl
      have hBw := hB1.trans hBW
      have c1 := (hBw.cell (p := ⟨b, off + x.val, none⟩) hblt).trans e1
      have c2 := (hBw.cell (p := ⟨B x.val, O x.val + y.val, none⟩) hBlt).trans (e2 y.val hyl)
      clear hOx e1 e2
      have hmx : Tryd.prog.follows .mixedOrders = true := by kernel_rfl
      have l2 : o x.val y.val < 65536 := ho _ _ hxl hyl
      gi_wp2
      refine region_round hmx (by kernel_rfl) ?_
      refine wpAny_still_tail 0 8 (by kernel_rfl) (by kernel_rfl) ?_
      simp only [List.take_succ_cons, List.take_zero, List.drop_succ_cons, List.drop_zero]
      repeat still_step
      refine wpStill_nil ?_
      change wpList _ _ _ _ _ W'.drew
      go_wp2_with (go_at_call 68; refine (isWithin_f (o x.val y.val) s l2 hs6 _).mono ?_; rintro e w3 ⟨bo, rfl, hbo, rfl⟩)
      refine ⟨rfl, ?_⟩
      have HBo := Lib.hid hbo
      clear hbo
      cases bo
      · have hn : ¬ subS (o x.val y.val) s := fun hc => by cases HBo.out.2 hc
        gi_wp2
        exact ⟨((KeepsOthers.drew _).trans (KeepsOthers.setCell _ _ _)).from _, ⟨⟨rfl, y.val, by rw [nums_snoc]; simp, hn⟩, Boxed.set (W := W'.drew) _ bS2⟩, hBW.drew.setCell (p := ⟨w.heap.size + 1 + 1, 0, none⟩) (by simp; omega) _, hKF.trans (((KeepsOthers.drew _).trans (KeepsOthers.setCell _ _ _)).from _)⟩
      · have hn : subS (o x.val y.val) s := HBo.out.1 rfl
        gi_wp2
        have hK9 : KeepsFrom (w.heap.size + 4) W W'.drew := by rw [← hsz]; exact hKF.trans ((KeepsOthers.drew _).from _)
        refine ⟨(KeepsOthers.drew _).from _, fun q => q, ⟨⟨⟨⟨⟨⟨?_, bS2⟩, bO2⟩, bT2⟩, bA2⟩, bX2⟩, hBW.drew, hK9⟩⟩
        intro j hj
        rw [nums_snoc] at hj
        rcases List.mem_append.1 hj with hj | hj
        · exact HQ2.out j hj
        · obtain rfl : j = y.val := by simpa using hj
          exact hn
    case done2 =>
      rintro ys' W' hz ⟨⟨⟨⟨⟨⟨hq2, bS2⟩, bO2⟩, bT2⟩, bA2⟩, bX2⟩, hBW, hKF⟩
      gi_wp2
      refine ⟨hKF, fun _ => bA2, ⟨⟨⟨⟨⟨?_, bS2⟩, bO2⟩, bT2⟩, bA2⟩, hB1.trans hBW⟩⟩
      intro i hi j hj
      rw [nums_snoc] at hi
      rcases List.mem_append.1 hi with hi | hi
      · exact HQ.out i hi j hj
      · obtain rfl : i = x.val := by simpa using hi
        rw [← hz] at hj
        exact hq2 j hj
    case stop2 =>
      rintro c pre' W' hpre ⟨⟨⟨rfl, j, hj, hn⟩, bS2⟩, hBW, hKF⟩
      gi_wp2
      exact ⟨hKF, ⟨⟨rfl, x.val, by rw [nums_snoc]; simp, j, hpre.subset hj, hn⟩, bS2⟩, hB1.trans hBW⟩
  case done =>
    rintro D zs W hD hz ⟨⟨⟨⟨⟨hq, bS1⟩, bO1⟩, bT1⟩, bA1⟩, hB1⟩ hK
    have HR := Lib.hid (show ClO o s from fun i hi j hj => hq i (by rw [hz]; exact hi) j hj)
    clear hq
    have cS := bS1.cell
    have fS := bS1.frozen
    gi_wp2
    have hK' := (KeepsOthers.setCell W ⟨w.heap.size + 1 + 1, 0, none⟩ (.bool true)).same D _ hK rfl
    refine ⟨by simp, .inl ⟨_, _, rfl, run_takeDeferred hK', ?_⟩⟩
    have hc5 := cell_kept (bS1.set (.bool true)).cell (grownBy_putObj' _ D (.deferred none)) (fun r e => by cases e; exact ⟨_, hK', rfl⟩)
    refine ⟨.bool true, ?_, true, rfl, ⟨fun _ => HR.out, fun _ => rfl⟩, (hB1.setCell (p := ⟨w.heap.size + 1 + 1, 0, none⟩) (by simp; omega) _).trans (belowK_b (w := w) (Nat.le_refl _) _ D _ _ (by omega) hK' rfl rfl)⟩
    simp [results, Tryd.f67, go_sem, hc5]
  case stop =>
    rintro D c pre W hD hpre ⟨⟨⟨rfl, i, hi, j, hj, hn⟩, bS1⟩, hB1⟩ hK
    gi_wp2
    refine ⟨by simp, .inl ⟨_, _, rfl, run_takeDeferred hK, ?_⟩⟩
    have hc5 := cell_kept bS1.cell (grownBy_putObj' _ D (.deferred none)) (fun r e => by cases e; exact ⟨_, hK, rfl⟩)
    refine ⟨.bool false, ?_, false, rfl, ⟨fun h => (by cases h), fun h => absurd (h i (hpre.subset hi) j hj) hn⟩, hB1.trans (belowK_b (w := w) (Nat.le_refl _) W D _ _ (by omega) hK rfl rfl)⟩
    simp [results, Tryd.f67, go_sem, hc5]
end Go.Proofs.YtpfodikmidgpmaaDoor
