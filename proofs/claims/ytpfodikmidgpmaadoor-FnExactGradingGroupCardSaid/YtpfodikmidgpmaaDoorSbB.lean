/- What occurs in products of labels of two sets. -/
import Derived.Test.YtpfodikmidgpmaaDoorSbA
import Derived.Test.YtpfodikmidgpmaaDoorSbR
namespace Go.Proofs.YtpfodikmidgpmaaDoor
open Go.RowKit
set_option linter.unusedSimpArgs false
set_option linter.unusedVariables false
attribute [local go_sem] Oper.semAt_some
/-- what occurs in products of labels of the lists -/
def prl (o : Nat → Nat → Nat) (xs ys : List Nat) : Nat := xs.foldl (fun s i => orl (o i) s ys) 0
theorem prl_snoc (o : Nat → Nat → Nat) (xs ys : List Nat) (i : Nat) : prl o (xs ++ [i]) ys = orl (o i) (prl o xs ys) ys := by simp [prl]
theorem prl_bit (o : Nat → Nat → Nat) (xs ys : List Nat) (k : Nat) : (prl o xs ys).testBit k = true ↔ ∃ i ∈ xs, ∃ j ∈ ys, (o i j).testBit k = true := by
  have : ∀ (xs : List Nat) (s : Nat), (xs.foldl (fun s i => orl (o i) s ys) s).testBit k = true ↔ s.testBit k = true ∨ ∃ i ∈ xs, ∃ j ∈ ys, (o i j).testBit k = true := by
    intro xs
    induction xs with
    | nil => intro s; simp
    | cons x xs ih =>
      intro s
      rw [List.foldl_cons, ih, orl_bit]
      simp only [List.mem_cons, exists_eq_or_imp, or_assoc]
  unfold prl
  rw [this]; simp
theorem prl_lt {o : Nat → Nat → Nat} {xs ys : List Nat} (h : ∀ i ∈ xs, ∀ j ∈ ys, o i j < 65536) : prl o xs ys < 65536 := by
  have : ∀ (xs : List Nat) (s : Nat), (∀ i ∈ xs, ∀ j ∈ ys, o i j < 65536) → s < 65536 → xs.foldl (fun s i => orl (o i) s ys) s < 65536 := by
    intro xs
    induction xs with
    | nil => intro s _ hs; exact hs
    | cons x xs ih =>
      intro s h hs
      rw [List.foldl_cons]
      exact ih _ (fun i hi => h i (by simp [hi])) (orl_lt (n := 16) hs fun j hj => h x (by simp) j hj)
  exact this xs 0 h (by omega)
theorem nums_lt {m : Nat} (l : List (Fin m)) : ∀ i ∈ nums l, i < m := fun i hi => by
  obtain ⟨x, _, rfl⟩ := List.mem_map.1 hi
  exact x.isLt
theorem lbl_lt {s n : Nat} (h6 : s < 65536) (hs : s < 2 ^ n) : ∀ i ∈ lbl s, i < n := fun i hi => bit_lt hs ((mem_lbl h6).1 hi)
/-- a table of what occurs -/
def OccP (w : World) (b off n : Nat) (B O C : Nat → Nat) (o : Nat → Nat → Nat) : Prop :=
  b < w.heap.size ∧ ∀ i, i < n → w.cell? ⟨b, off + i, none⟩ = some (.slice (some ⟨B i, O i, none⟩) n (C i)) ∧ B i < w.heap.size ∧ ∀ j, j < n → w.cell? ⟨B i, O i + j, none⟩ = some (.int .i64 (o i j : Nat))
theorem OccP.below {w w' : World} {b off n : Nat} {B O C : Nat → Nat} {o : Nat → Nat → Nat} (h : OccP w b off n B O C o) {k : Nat} (hb : Below k w w') (hk : w.heap.size ≤ k) : OccP w' b off n B O C o :=
  ⟨Nat.lt_of_lt_of_le h.1 hb.size, fun i hi => ⟨(hb.cell (p := ⟨b, off + i, none⟩) (Nat.lt_of_lt_of_le h.1 hk)).trans (h.2 i hi).1, Nat.lt_of_lt_of_le (h.2 i hi).2.1 hb.size, fun j hj => (hb.cell (p := ⟨B i, O i + j, none⟩) (Nat.lt_of_lt_of_le (h.2 i hi).2.1 hk)).trans ((h.2 i hi).2.2 j hj)⟩⟩
set_option maxRecDepth 100000 in
set_option maxHeartbeats 4000000 in
theorem product_f (b off n c : Nat) (B O C : Nat → Nat) (o : Nat → Nat → Nat) (s t : Nat) (w : World) (h : OccP w b off n B O C o) (h16 : n ≤ 16) (hs : s < 2 ^ n) (ht : t < 2 ^ n) (ho : ∀ i j, i < n → j < n → o i j < 65536) :
    Calls Tryd.prog 61 #[.slice (some ⟨b, off, none⟩) n c, .int .i64 s, .int .i64 t] w fun e w' => e = .returned (.int .i64 (prl o (lbl s) (lbl t) : Nat)) ∧ Below w.heap.size w w' := by
  have hp := pow_le16 h16
  have hs6 : s < 65536 := by omega
  have ht6 : t < 65536 := by omega
  refine (callsIn_wide (n := 9)).1 ?_
  refine callsIn_of_wp_marks Tryd.func61 rfl trivial ?_ rfl
  simp only [Tryd.ntmps61, List.size_toArray, List.length_cons, List.length_nil, Nat.reduceAdd, Nat.reduceSub, Array.replicate_succ, Array.replicate_zero, List.push_toArray, List.append_toArray, List.nil_append, List.cons_append]
  gi_wp2_with (refine ⟨trivial, ?_⟩; gi_at_call 59; refine (callsIn_wide.2 (labels_f s _)).mono ?_; rintro e w1 ⟨rfl, rfl⟩)
  have b0 := (((Boxed.new w 43 (.slice (some ⟨b, off, none⟩) n c)).alloc (.cells #[.int .i64 t] 59)).alloc (.cells #[.int .i64 0] 59)).alloc (.cells #[.int .i64 s] 59)
  have b1 := ((Boxed.new (w.alloc (.cells #[.slice (some ⟨b, off, none⟩) n c] 43)) 59 (.int .i64 t)).alloc (.cells #[.int .i64 0] 59)).alloc (.cells #[.int .i64 s] 59)
  have b2 := (Boxed.new ((w.alloc (.cells #[.slice (some ⟨b, off, none⟩) n c] 43)).alloc (.cells #[.int .i64 t] 59)) 59 (.int .i64 0)).alloc (.cells #[.int .i64 s] 59)
  have b3 := Boxed.new (((w.alloc (.cells #[.slice (some ⟨b, off, none⟩) n c] 43)).alloc (.cells #[.int .i64 t] 59)).alloc (.cells #[.int .i64 0] 59)) 59 (.int .i64 s)
  simp only [World.size_alloc] at b1 b2 b3 ⊢
  have hB0 : Below w.heap.size w ((((w.alloc (.cells #[.slice (some ⟨b, off, none⟩) n c] 43)).alloc (.cells #[.int .i64 t] 59)).alloc (.cells #[.int .i64 0] 59)).alloc (.cells #[.int .i64 s] 59)) := ((((Below.refl _ w).alloc (Nat.le_refl _) _).alloc (by simp) _).alloc (by simp; omega) _).alloc (by simp; omega) _
  have hsz : ((((w.alloc (.cells #[.slice (some ⟨b, off, none⟩) n c] 43)).alloc (.cells #[.int .i64 t] 59)).alloc (.cells #[.int .i64 0] 59)).alloc (.cells #[.int .i64 s] 59)).heap.size = w.heap.size + 4 := by simp
  obtain ⟨W0, hW0⟩ : ∃ W0, ((((w.alloc (.cells #[.slice (some ⟨b, off, none⟩) n c] 43)).alloc (.cells #[.int .i64 t] 59)).alloc (.cells #[.int .i64 0] 59)).alloc (.cells #[.int .i64 s] 59)) = W0 := ⟨_, rfl⟩
  rw [hW0] at b0 b1 b2 b3 hB0 hsz ⊢
  clear hW0
  have HO := Lib.hid h
  clear h
  refine wpIn_rangeFunc_ownH (α := Fin n) rfl (by omega) (gf := 66) (lb := #[.pointer (some ⟨w.heap.size + 1 + 1 + 1, 0, none⟩)]) rfl trivial (enters_of Tryd.func66 (by kernel_rfl) rfl)
    (labels_stops (9 - 1) (w.heap.size + 1 + 1 + 1) s n hs6 hs W0 b3) keepB_t keepB_b (Below.refl _ _) (fun _ => rfl)
    (fun pre W => (((Boxed W (w.heap.size + 1 + 1) 59 (.int .i64 (prl o (nums pre) (lbl t) : Nat)) ∧ Boxed W w.heap.size 43 (.slice (some ⟨b, off, none⟩) n c)) ∧ Boxed W (w.heap.size + 1) 59 (.int .i64 t)) ∧ Boxed W (w.heap.size + 1 + 1 + 1) 59 (.int .i64 s)) ∧ Below w.heap.size w W)
    (fun _ _ _ => False)
    (OwnFrom.and (OwnFrom.and (OwnFrom.and (OwnFrom.and (Own.from (boxed_own _ _ _) _) (Own.from (boxed_own _ _ _) _)) (Own.from (boxed_own _ _ _) _)) (Own.from (boxed_own _ _ _) _)) (ownFrom_below (Nat.le_refl _) (by omega)))
    (fun _ _ _ _ _ hs _ _ => hs)
    ⟨⟨⟨⟨b2, b0⟩, b1⟩, b3⟩, hB0⟩
    (fun x a' W => ∃ Bx, w.heap.size + 3 < Bx ∧ Boxed W Bx 2 (.int .i64 (x.val : Nat)) ∧ a' = { tmps := #[.slice (some ⟨b, off, none⟩) n c, .int .i64 s, .int .i64 t, .pointer (some ⟨w.heap.size, 0, none⟩), undef, .pointer (some ⟨w.heap.size + 1, 0, none⟩), .int .i64 0, .pointer (some ⟨w.heap.size + 1 + 1, 0, none⟩), .pointer (some ⟨Bx, 0, none⟩), undef, .int .i64 s, .func (.func 66) #[] #[.pointer (some ⟨w.heap.size + 1 + 1 + 1, 0, none⟩)], .int .i64 (x.val : Nat), undef, undef, undef, undef, undef, undef, undef, undef, undef, undef, undef, undef, undef], defers := [] })
    (fun x a' _ X Y row hs hg hr => by obtain ⟨Bx, h1, h2, h3⟩ := hs; exact ⟨Bx, h1, boxed_own Bx 2 (fun (_ : Unit) => Value.int .i64 (x.val : Nat)) () X Y row h2 hg (fun r e => (hr r e).2), h3⟩)
    ?assign ?body ?done ?stop
  case assign =>
    rintro l pre x W K ⟨⟨⟨⟨bS1, bO1⟩, bT1⟩, bA1⟩, hB1⟩ hK
    gi_wp2
    exact hK _ _ ((KeepsOthers.alloc _ _).from _) (fun q => q.alloc _) ⟨⟨⟨⟨bS1.alloc _, bO1.alloc _⟩, bT1.alloc _⟩, bA1.alloc _⟩, hB1.alloc hB1.size _⟩ ⟨W.heap.size, bA1.lt, Boxed.new W 2 _, rfl⟩
  case body =>
    rintro l pre x a' W hl ⟨r, hr⟩ ⟨⟨⟨⟨bS1, bO1⟩, bT1⟩, bA1⟩, hB1⟩ ⟨Bx, hBx, bX, rfl⟩ hlt
    have cT := bT1.cell
    gi_wp2_with (refine ⟨trivial, ?_⟩; gi_at_call 59; refine (CallsIn.inRound l (callsIn_wide.2 (labels_f t _))).mono ?_; rintro e w' ⟨rfl, rfl⟩)
    have hsW := hB1.size
    have bN := Boxed.new W 59 (.int .i64 t)
    have hr' : (W.alloc (.cells #[.int .i64 t] 59)).heap[l]? = some (.loop r) := (Below.heap_alloc W _ l (Array.getElem?_eq_some_iff.1 hr).1).trans hr
    have hxl := x.isLt
    refine wpIn_rangeFunc_ownN (α := Fin n) (l₀ := l) (r₀ := r) rfl hr' (by omega) (gf := 66) (lb := #[.pointer (some ⟨W.heap.size, 0, none⟩)]) rfl trivial (enters_of Tryd.func66 (by kernel_rfl) rfl)
      ((labels_stops (9 - 1 - 1 - 1) W.heap.size t n ht6 ht _ bN).inRound l) keepB_t keepB_b (Below.refl _ _) (fun _ => rfl)
      (fun pre' W' => (((((Boxed W' (w.heap.size + 1 + 1) 59 (.int .i64 (orl (o x.val) (prl o (nums pre) (lbl t)) (nums pre') : Nat)) ∧ Boxed W' w.heap.size 43 (.slice (some ⟨b, off, none⟩) n c)) ∧ Boxed W' (w.heap.size + 1) 59 (.int .i64 t)) ∧ Boxed W' (w.heap.size + 1 + 1 + 1) 59 (.int .i64 s)) ∧ Boxed W' Bx 2 (.int .i64 (x.val : Nat))) ∧ Boxed W' W.heap.size 59 (.int .i64 t)) ∧ (Below w.heap.size W W' ∧ KeepsFrom W0.heap.size W W'))
      (fun _ _ _ => False)
      (OwnFrom.and (OwnFrom.and (OwnFrom.and (OwnFrom.and (OwnFrom.and (OwnFrom.and (Own.from (boxed_own _ _ _) _) (Own.from (boxed_own _ _ _) _)) (Own.from (boxed_own _ _ _) _)) (Own.from (boxed_own _ _ _) _)) (Own.from (boxed_own _ _ _) _)) (Own.from (boxed_own _ _ _) _)) (OwnFrom.and (ownFrom_below hsW (by simp; omega)) (ownFrom_keepsFrom (by simp))))
      (fun _ _ _ _ _ hs _ _ => hs)
      ⟨⟨⟨⟨⟨⟨bS1.alloc _, bO1.alloc _⟩, bT1.alloc _⟩, bA1.alloc _⟩, bX.alloc _⟩, bN⟩, (Below.refl _ W).alloc hsW _, (KeepsOthers.alloc _ _).from _⟩
      (fun y a'' _ => a'' = { tmps := #[.slice (some ⟨b, off, none⟩) n c, .int .i64 s, .int .i64 t, .pointer (some ⟨w.heap.size, 0, none⟩), undef, .pointer (some ⟨w.heap.size + 1, 0, none⟩), .int .i64 0, .pointer (some ⟨w.heap.size + 1 + 1, 0, none⟩), .pointer (some ⟨Bx, 0, none⟩), .int .i64 (y.val : Nat), .int .i64 s, .func (.func 66) #[] #[.pointer (some ⟨w.heap.size + 1 + 1 + 1, 0, none⟩)], .int .i64 (x.val : Nat), .int .i64 t, .func (.func 66) #[] #[.pointer (some ⟨W.heap.size, 0, none⟩)], .int .i64 (y.val : Nat), undef, undef, undef, undef, undef, undef, undef, undef, undef, undef], defers := [] })
      (fun _ _ _ _ _ _ hs _ _ => hs)
      ?assign2 ?body2 ?done2 ?stop2
    case assign2 =>
      rintro l2 pre' y W' K hi hK
      gi_wp2
      exact hK _ _ (KeepsFrom.refl _ _) (fun q => q) hi rfl
    case body2 =>
      rintro l2 pre' y a'' W' _ _ ⟨⟨⟨⟨⟨⟨bS2, bO2⟩, bT2⟩, bA2⟩, bX2⟩, bN2⟩, hBW, hKF⟩ rfl _
      have q1 := bA1.lt
      have cS := bS2.cell
      have fS := bS2.frozen
      have cO := bO2.cell
      have cX := bX2.cell
      have hyl := y.isLt
      obtain ⟨hblt, hOx⟩ := HO.out
      obtain ⟨e1, hBlt, e2⟩ := hOx x.val hxl
      have hBw := hB1.trans hBW
      have c1 := (hBw.cell (p := ⟨b, off + x.val, none⟩) hblt).trans e1
      have c2 := (hBw.cell (p := ⟨B x.val, O x.val + y.val, none⟩) hBlt).trans (e2 y.val hyl)
      clear hOx e1 e2
      have hmx : Tryd.prog.follows .mixedOrders = true := by kernel_rfl
      have l1 : orl (o x.val) (prl o (nums pre) (lbl t)) (nums pre') < 65536 := orl_lt (n := 16) (prl_lt fun i hi j hj => ho i j (nums_lt _ i hi) (lbl_lt ht6 ht j hj)) fun j hj => ho _ _ hxl (nums_lt _ j hj)
      have l2 : o x.val y.val < 65536 := ho _ _ hxl hyl
      have hor := or_i64 (show orl (o x.val) (prl o (nums pre) (lbl t)) (nums pre') < 4611686018427387904 by omega) (show o x.val y.val < 4611686018427387904 by omega)
      gi_wp2
      refine region_round hmx (by kernel_rfl) ?_
      refine wpAny_still_tail 0 9 (by kernel_rfl) (by kernel_rfl) ?_
      simp only [List.take_succ_cons, List.take_zero, List.drop_succ_cons, List.drop_zero]
      repeat still_step
      refine wpStill_nil ?_
      change wpList _ _ _ _ _ W'.drew
      go_wp2_with fail
      refine ⟨rfl, ?_⟩
      gi_wp2
      refine ⟨((KeepsOthers.setCell _ _ _).trans (KeepsOthers.drew _)).from _, fun _ => bN2.other (by omega) _, ⟨⟨⟨⟨⟨?_, bO2.other (by omega) _⟩, bT2.other (by omega) _⟩, bA2.other (by omega) _⟩, bX2.other (by omega) _⟩, bN2.other (by omega) _⟩, (hBW.setCell (p := ⟨w.heap.size + 1 + 1, 0, none⟩) (by simp; omega) _).drew, hKF.trans (((KeepsOthers.setCell _ _ _).trans (KeepsOthers.drew _)).from _)⟩
      rw [nums_snoc, orl_snoc]
      exact bS2.set _
    case done2 =>
      rintro ys' W' hz ⟨⟨⟨⟨⟨⟨bS2, bO2⟩, bT2⟩, bA2⟩, bX2⟩, bN2⟩, hBW, hKF⟩
      gi_wp2
      exact ⟨hKF, fun _ => bA2, ⟨⟨⟨⟨by rw [nums_snoc, prl_snoc]; rw [hz] at bS2; exact bS2, bO2⟩, bT2⟩, bA2⟩, hB1.trans hBW⟩⟩
    case stop2 =>
      rintro c pre' W' _ h
      exact h.elim
  case done =>
    rintro D zs W hD hz ⟨⟨⟨⟨bS1, bO1⟩, bT1⟩, bA1⟩, hB1⟩ hK
    have cS := bS1.cell
    gi_wp2
    refine ⟨by simp, .inl ⟨_, _, rfl, run_takeDeferred hK, ?_⟩⟩
    exact ⟨_, results_tmp rfl _ _ _, by rw [← hz]; rfl, hB1.trans (belowK_b (w := w) (Nat.le_refl _) W D _ _ (by omega) hK rfl rfl)⟩
  case stop =>
    rintro D c pre W _ _ h _
    exact h.elim
end Go.Proofs.YtpfodikmidgpmaaDoor
