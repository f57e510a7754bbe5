/- Sums of elements of a group (the program's). -/
import Derived.Test.YtmdmojklagmmiaaBwd
import Derived.Test.YtmdmojklagmmiaaFmB
import Derived.Test.YtmdmojklagmmiaaSbR
namespace Go.Proofs.Ytmdmojklagmmiaa
open Go.RowKit
set_option linter.unusedSimpArgs false
set_option linter.unusedVariables false
attribute [local go_sem] Oper.semAt_some
theorem w64_eq (z : Int) : IntKind.i64.wrap z = wrap64 z := by first | rfl | (rw [IntKind.wrap_i64]; rfl) | simp [wrap64, IntKind.wrap_i64]
/-- one step of the program's sum: what is left of both, the sum, the place -/
def stp (o : Nat → Int) (s : Int × Int × Int × Int) (i : Nat) : Int × Int × Int × Int :=
  (IntKind.i64.wrap (s.1.tdiv (o i)), IntKind.i64.wrap (s.2.1.tdiv (o i)), IntKind.i64.wrap (s.2.2.1 + IntKind.i64.wrap ((IntKind.i64.wrap (s.1 + s.2.1)).tmod (o i) * s.2.2.2)), IntKind.i64.wrap (s.2.2.2 * o i))
def stL (o : Nat → Int) (x y : Int) (l : List Nat) : Int × Int × Int × Int := l.foldl (stp o) (x, y, 0, 1)
theorem stL_snoc (o : Nat → Int) (x y : Int) (l : List Nat) (i : Nat) : stL o x y (l ++ [i]) = stp o (stL o x y l) i := by simp [stL]
theorem stL_inv {o : Nat → Int} {n : Nat} {x y : Int} (ho : ∀ i, i < n → 1 ≤ o i) (hp : prodO o n ≤ 1000) (hx : 0 ≤ x) (hx2 : x ≤ 1000) (hy : 0 ≤ y) (hy2 : y ≤ 1000) : ∀ k, k ≤ n →
    0 ≤ (stL o x y (bkw n k)).1 ∧ (stL o x y (bkw n k)).1 ≤ 1000 ∧ 0 ≤ (stL o x y (bkw n k)).2.1 ∧ (stL o x y (bkw n k)).2.1 ≤ 1000 ∧ 0 ≤ (stL o x y (bkw n k)).2.2.1 ∧ 1 ≤ (stL o x y (bkw n k)).2.2.2 ∧
      (stL o x y (bkw n k)).2.2.1 + (stL o x y (bkw n k)).2.2.2 * addO o (n - k) (stL o x y (bkw n k)).1 (stL o x y (bkw n k)).2.1 = addO o n x y ∧ (stL o x y (bkw n k)).2.2.2 * prodO o (n - k) = prodO o n := by
  intro k
  induction k with
  | zero =>
    intro _
    refine ⟨hx, hx2, hy, hy2, Int.le_refl _, Int.le_refl _, ?_, ?_⟩
    · show 0 + 1 * addO o (n - 0) x y = _; rw [Int.zero_add, Int.one_mul, Nat.sub_zero]
    · show 1 * prodO o (n - 0) = _; rw [Int.one_mul, Nat.sub_zero]
  | succ k ih =>
    intro hk
    obtain ⟨a1, a2, a3, a4, a5, a6, hsum, hpr⟩ := ih (by omega)
    rw [show bkw n (k + 1) = bkw n k ++ [n - 1 - k] from rfl, stL_snoc]
    obtain ⟨m, hm⟩ : ∃ m, n - (k + 1) = m := ⟨_, rfl⟩
    rw [show n - k = m + 1 by omega] at hsum hpr
    rw [hm, show n - 1 - k = m by omega]
    have hT := addO_bd (m := n) x y ho
    generalize stL o x y (bkw n k) = s at *
    obtain ⟨x', y', out, st⟩ := s
    simp only at a1 a2 a3 a4 a5 a6 hsum hpr
    simp only [stp]
    have hd1 := ho m (by omega)
    have hpk := prodO_pos ho (q := m) (by omega)
    have hA := addO_bd (m := m) (x' / o m) (y' / o m) (fun i hi => ho i (by omega))
    rw [addO] at hsum
    rw [prodO] at hpr
    rw [← Int.add_emod] at hsum
    obtain ⟨A, hAe⟩ : ∃ A, A = addO o m (x' / o m) (y' / o m) := ⟨_, rfl⟩
    rw [← hAe] at hsum hA
    have t1 : IntKind.i64.wrap (x' + y') = x' + y' := IntWalk.i64_in _ (by omega)
    have t2 : (x' + y').tmod (o m) = (x' + y') % o m := Int.tmod_eq_emod_of_nonneg (by omega)
    have t3 : x'.tdiv (o m) = x' / o m := Int.tdiv_eq_ediv_of_nonneg a1
    have t4 : y'.tdiv (o m) = y' / o m := Int.tdiv_eq_ediv_of_nonneg a3
    rw [t1, t2, t3, t4]
    have q5 := Int.emod_nonneg (x' + y') (show o m ≠ 0 by omega)
    have q6 := Int.emod_lt_of_pos (x' + y') (show 0 < o m by omega)
    have q7 : x' / o m ≤ x' := Int.ediv_le_self _ a1
    have q8 : 0 ≤ x' / o m := Int.ediv_nonneg a1 (by omega)
    have q9 : y' / o m ≤ y' := Int.ediv_le_self _ a3
    have q10 : 0 ≤ y' / o m := Int.ediv_nonneg a3 (by omega)
    have s1 : st * o m ≤ st * (prodO o m * o m) := Int.mul_le_mul_of_nonneg_left (by have := Int.mul_le_mul_of_nonneg_right hpk (show 0 ≤ o m by omega); omega) (by omega)
    rw [hpr] at s1
    have s9 : 1 ≤ st * o m := by have := Int.mul_le_mul a6 hd1 (by omega) (by omega); omega
    have s2 : (x' + y') % o m * st ≤ (o m - 1) * st := Int.mul_le_mul_of_nonneg_right (by omega) (by omega)
    have s3 : (o m - 1) * st = st * o m - st := by rw [Int.sub_mul, Int.one_mul, Int.mul_comm]
    have s4 : 0 ≤ (x' + y') % o m * st := Int.mul_nonneg q5 (by omega)
    have s6 : out + (x' + y') % o m * st + st * o m * A = addO o n x y := by
      rw [← hsum, Int.mul_add, ← Int.mul_assoc, Int.mul_comm st ((x' + y') % o m)]; omega
    have s7 : 0 ≤ st * o m * A := Int.mul_nonneg (by omega) hA.1
    have s8 : st * o m * prodO o m = prodO o n := by rw [← hpr, Int.mul_assoc, Int.mul_comm (o m)]
    have u1 : IntKind.i64.wrap (x' / o m) = x' / o m := IntWalk.i64_in _ (by omega)
    have u2 : IntKind.i64.wrap (y' / o m) = y' / o m := IntWalk.i64_in _ (by omega)
    have u3 : IntKind.i64.wrap ((x' + y') % o m * st) = (x' + y') % o m * st := IntWalk.i64_in _ (by omega)
    have u4 : IntKind.i64.wrap (out + (x' + y') % o m * st) = out + (x' + y') % o m * st := IntWalk.i64_in _ (by omega)
    have u5 : IntKind.i64.wrap (st * o m) = st * o m := IntWalk.i64_in _ (by omega)
    rw [u1, u2, u3, u4, u5]
    rw [← hAe]
    exact ⟨q8, by omega, q10, by omega, by omega, s9, s6, s8⟩
theorem stL_all {o : Nat → Int} {n : Nat} {x y : Int} (ho : ∀ i, i < n → 1 ≤ o i) (hp : prodO o n ≤ 1000) (hx : 0 ≤ x) (hx2 : x ≤ 1000) (hy : 0 ≤ y) (hy2 : y ≤ 1000) : (stL o x y (bkw n n)).2.2.1 = addO o n x y := by
  obtain ⟨_, _, _, _, _, _, h, _⟩ := stL_inv ho hp hx hx2 hy hy2 n (Nat.le_refl _)
  rw [Nat.sub_self, addO, Int.mul_zero, Int.add_zero] at h
  exact h
set_option maxRecDepth 100000 in
set_option maxHeartbeats 4000000 in
theorem plus_f (a : Option Addr) (n c : Nat) (o : Nat → Int) (x y : Int) (w : World) (h : RdR w a n o) (ho : ∀ i, i < n → 1 ≤ o i) (hp : prodO o n ≤ 1000) (hn : n ≤ 1048576) (hx : 0 ≤ x) (hx2 : x ≤ 1000) (hy : 0 ≤ y) (hy2 : y ≤ 1000) :
    Calls Try.prog 189 #[.agg #[.slice a n c], .int .i64 x, .int .i64 y] w fun e w' => e = .returned (.int .i64 (addO o n x y)) ∧ Below w.heap.size w w' := by
  have HF := Lib.hid (stL_all ho hp hx hx2 hy hy2)
  have HO := Lib.hid ho
  have HR := Lib.hid h
  clear ho hp hx hx2 hy hy2 h
  refine (callsIn_wide (n := 9)).1 ?_
  refine callsIn_of_wp_marks Try.func189 rfl trivial ?_ rfl
  simp only [Try.ntmps189, List.size_toArray, List.length_cons, List.length_nil, Nat.reduceAdd, Nat.reduceSub, Array.replicate_succ, Array.replicate_zero, List.push_toArray, List.append_toArray, List.nil_append, List.cons_append]
  gi_wp2_with (refine ⟨trivial, ?_⟩; gi_at_call 193; refine (callsIn_wide.2 (backward_f _ n c _)).mono ?_; rintro e w1 ⟨rfl, rfl⟩)
  have hW : ∃ W0, W0 = ((((((w.alloc (.cells #[.slice a n c] 114)).alloc (.cells #[.int .i64 x] 2)).alloc (.cells #[.int .i64 y] 2)).alloc (.cells #[.int .i64 0] 2)).alloc (.cells #[.int .i64 1] 2)).alloc (.cells #[.slice a n c] 26)) ∧ Below w.heap.size w W0 ∧ W0.heap.size = w.heap.size + 6 ∧ Boxed W0 (w.heap.size + 1) 2 (.int .i64 x) ∧ Boxed W0 (w.heap.size + 1 + 1) 2 (.int .i64 y) ∧ Boxed W0 (w.heap.size + 1 + 1 + 1) 2 (.int .i64 0) ∧ Boxed W0 (w.heap.size + 1 + 1 + 1 + 1) 2 (.int .i64 1) ∧ Boxed W0 (w.heap.size + 1 + 1 + 1 + 1 + 1) 26 (.slice a n c) := by
    refine ⟨_, rfl, ?_, by simp, ?_, ?_, ?_, ?_, ?_⟩
    · exact ((((((Below.refl _ w).alloc (Nat.le_refl _) _).alloc (by simp) _).alloc (by simp; omega) _).alloc (by simp; omega) _).alloc (by simp; omega) _).alloc (by simp; omega) _
    · have := ((((Boxed.new (w.alloc (.cells #[.slice a n c] 114)) 2 (.int .i64 x)).alloc (.cells #[.int .i64 y] 2)).alloc (.cells #[.int .i64 0] 2)).alloc (.cells #[.int .i64 1] 2)).alloc (.cells #[.slice a n c] 26)
      simp only [World.size_alloc] at this; exact this
    · have := (((Boxed.new ((w.alloc (.cells #[.slice a n c] 114)).alloc (.cells #[.int .i64 x] 2)) 2 (.int .i64 y)).alloc (.cells #[.int .i64 0] 2)).alloc (.cells #[.int .i64 1] 2)).alloc (.cells #[.slice a n c] 26)
      simp only [World.size_alloc] at this; exact this
    · have := ((Boxed.new (((w.alloc (.cells #[.slice a n c] 114)).alloc (.cells #[.int .i64 x] 2)).alloc (.cells #[.int .i64 y] 2)) 2 (.int .i64 0)).alloc (.cells #[.int .i64 1] 2)).alloc (.cells #[.slice a n c] 26)
      simp only [World.size_alloc] at this; exact this
    · have := (Boxed.new ((((w.alloc (.cells #[.slice a n c] 114)).alloc (.cells #[.int .i64 x] 2)).alloc (.cells #[.int .i64 y] 2)).alloc (.cells #[.int .i64 0] 2)) 2 (.int .i64 1)).alloc (.cells #[.slice a n c] 26)
      simp only [World.size_alloc] at this; exact this
    · have := Boxed.new (((((w.alloc (.cells #[.slice a n c] 114)).alloc (.cells #[.int .i64 x] 2)).alloc (.cells #[.int .i64 y] 2)).alloc (.cells #[.int .i64 0] 2)).alloc (.cells #[.int .i64 1] 2)) 26 (.slice a n c)
      simp only [World.size_alloc] at this; exact this
  obtain ⟨W0, hWe, hB0, hsz, b1, b2, b3, b4, b5⟩ := hW
  rw [← hWe]
  clear hWe
  refine wpIn_rangeFunc_ownH (α := Fin n) rfl (by omega) (gf := 194) (lb := #[.pointer (some ⟨w.heap.size + 1 + 1 + 1 + 1 + 1, 0, none⟩)]) rfl trivial (enters_of Try.func194 (by kernel_rfl) rfl)
    (backward_stops (9 - 1) (w.heap.size + 1 + 1 + 1 + 1 + 1) n c a o hn w HR.out W0 hB0 b5) keepQ_t (keepQ_b hB0.size) (Below.refl _ _) (fun _ => rfl)
    (fun pre W => ((((Boxed W (w.heap.size + 1) 2 (.int .i64 (stL o x y (numsQ pre)).1) ∧ Boxed W (w.heap.size + 1 + 1) 2 (.int .i64 (stL o x y (numsQ pre)).2.1)) ∧ Boxed W (w.heap.size + 1 + 1 + 1) 2 (.int .i64 (stL o x y (numsQ pre)).2.2.1)) ∧ Boxed W (w.heap.size + 1 + 1 + 1 + 1) 2 (.int .i64 (stL o x y (numsQ pre)).2.2.2)) ∧ Boxed W (w.heap.size + 1 + 1 + 1 + 1 + 1) 26 (.slice a n c)) ∧ Below w.heap.size w W)
    (fun _ _ _ => False)
    (OwnFrom.and (OwnFrom.and (OwnFrom.and (OwnFrom.and (OwnFrom.and (Own.from (boxed_own _ _ _) _) (Own.from (boxed_own _ _ _) _)) (Own.from (boxed_own _ _ _) _)) (Own.from (boxed_own _ _ _) _)) (Own.from (boxed_own _ _ _) _)) (ownFrom_below (Nat.le_refl _) (by omega)))
    (fun _ _ _ _ _ hs _ _ => hs)
    ⟨⟨⟨⟨⟨b1, b2⟩, b3⟩, b4⟩, b5⟩, hB0⟩
    (fun i a' _ => a' = { tmps := #[.agg #[.slice a n c], .int .i64 x, .int .i64 y, .pointer (some ⟨w.heap.size, 0, none⟩), .pointer (some ⟨w.heap.size + 1, 0, none⟩), .pointer (some ⟨w.heap.size + 1 + 1, 0, none⟩), .int .i64 0, .pointer (some ⟨w.heap.size + 1 + 1 + 1, 0, none⟩), .pointer (some ⟨w.heap.size + 1 + 1 + 1 + 1, 0, none⟩), undef, .int .i64 (o i.val), .pointer (some ⟨w.heap.size, 0, none⟩), .slice a n c, .func (.func 194) #[] #[.pointer (some ⟨w.heap.size + 1 + 1 + 1 + 1 + 1, 0, none⟩)], .int .i64 (i.val : Nat), .int .i64 (o i.val), undef, undef, undef, undef, undef, undef, undef, undef, undef, undef, undef, undef, undef, undef, undef, undef, undef, undef, undef], defers := [] })
    (fun _ _ _ _ _ _ hs _ _ => hs)
    ?assign ?body ?done ?stop
  case assign =>
    rintro l pre i W K hi hK
    gi_wp2
    exact hK _ _ (KeepsFrom.refl _ _) ⟨fun q => q, fun _ _ => rfl⟩ hi rfl
  case body =>
    rintro l pre i a' W hl ⟨r, hr⟩ ⟨⟨⟨⟨⟨bX, bY⟩, bS⟩, bP⟩, bL⟩, hB⟩ rfl hlt
    have HSn := Lib.hid (show stL o x y (numsQ (pre ++ [i])) = stp o (stL o x y (numsQ pre)) i.val by rw [numsQ_snoc, stL_snoc])
    have hd1 := HO.out i.val i.isLt
    have HSt := Lib.hid (show ∀ s, stp o s i.val = (IntKind.i64.wrap (s.1.tdiv (o i.val)), IntKind.i64.wrap (s.2.1.tdiv (o i.val)), IntKind.i64.wrap (s.2.2.1 + IntKind.i64.wrap ((IntKind.i64.wrap (s.1 + s.2.1)).tmod (o i.val) * s.2.2.2)), IntKind.i64.wrap (s.2.2.2 * o i.val)) from fun _ => rfl)
    rw [HSt.out] at HSn
    clear HSt
    obtain ⟨s, hs⟩ : ∃ s, s = stL o x y (numsQ pre) := ⟨_, rfl⟩
    rw [← hs] at HSn bX bY bS bP
    clear hs
    obtain ⟨s1, s2, s3, s4⟩ := s
    simp only at bX bY bS bP
    obtain ⟨d, hd⟩ : ∃ d, d = o i.val := ⟨_, rfl⟩
    rw [← hd] at HSn hd1
    have hdo : o i.val = d := hd.symm
    simp only [hdo]
    clear hd hdo
    have hz : (d == 0) = false := by simp; omega
    have hz2 : (d = 0) = False := by simp; omega
    have cX := bX.cell
    have cY := bY.cell
    have cS := bS.cell
    have cP := bP.cell
    have fX := bX.frozen
    have fY := bY.frozen
    have fS := bS.frozen
    have fP := bP.frozen
    have hmx : Try.prog.follows .mixedOrders = true := by kernel_rfl
    gi_wp2
    refine region_round hmx (by kernel_rfl) ?_
    refine wpAny_still_tail 0 9 (by kernel_rfl) (by kernel_rfl) ?_
    simp only [List.take_succ_cons, List.take_zero, List.drop_succ_cons, List.drop_zero]
    repeat still_step
    refine wpStill_nil ?_
    change wpList _ _ _ _ _ W.drew
    go_wp2_with fail
    refine ⟨rfl, ?_⟩
    obtain ⟨W1, hW1⟩ : ∃ X, X = (W.setCell ⟨w.heap.size + 1 + 1 + 1, 0, none⟩ (.int .i64 (wrap64 (s3 + wrap64 ((wrap64 (s1 + s2)).tmod d * s4))))).drew := ⟨_, rfl⟩
    rw [← hW1]
    have bX1 : Boxed W1 (w.heap.size + 1) 2 (.int .i64 s1) := by rw [hW1]; exact bX.other (by omega) _
    have bY1 : Boxed W1 (w.heap.size + 1 + 1) 2 (.int .i64 s2) := by rw [hW1]; exact bY.other (by omega) _
    have bS1 : Boxed W1 (w.heap.size + 1 + 1 + 1) 2 (.int .i64 (IntKind.i64.wrap (s3 + IntKind.i64.wrap ((IntKind.i64.wrap (s1 + s2)).tmod d * s4)))) := by rw [hW1]; simp only [w64_eq]; exact bS.set _
    have bP1 : Boxed W1 (w.heap.size + 1 + 1 + 1 + 1) 2 (.int .i64 s4) := by rw [hW1]; exact bP.other (by omega) _
    have bL1 : Boxed W1 (w.heap.size + 1 + 1 + 1 + 1 + 1) 26 (.slice a n c) := by rw [hW1]; exact bL.other (by omega) _
    have HB1 := Lib.hid (show Below w.heap.size W W1 by rw [hW1]; exact ((Below.refl _ W).setCell (p := ⟨w.heap.size + 1 + 1 + 1, 0, none⟩) (by simp; omega) _).drew)
    have HK1 := Lib.hid (show KeepsFrom W0.heap.size W W1 by rw [hW1]; exact ((KeepsOthers.setCell _ _ _).trans (KeepsOthers.drew _)).from _)
    clear hW1 cX cY cS cP fX fY fS fP
    have cX := bX1.cell
    have cY := bY1.cell
    have cP := bP1.cell
    have fX := bX1.frozen
    have fY := bY1.frozen
    have fP := bP1.frozen
    gi_wp2
    refine region_round hmx (by kernel_rfl) ?_
    change wpAny _ _ _ _ _ _ _ W1.drew
    generalize hQ : onlyN _ = QQ
    have hQn : ∀ {e : Exit} {a : Act} {w : World}, QQ e a w → e = .normal := by intro e a w h; rw [← hQ] at h; exact h.1
    have HEnd : QQ .normal { tmps := #[.agg #[.slice a n c], .int .i64 x, .int .i64 y, .pointer (some ⟨w.heap.size, 0, none⟩), .pointer (some ⟨w.heap.size + 1, 0, none⟩), .pointer (some ⟨w.heap.size + 1 + 1, 0, none⟩), .int .i64 0, .pointer (some ⟨w.heap.size + 1 + 1 + 1, 0, none⟩), .pointer (some ⟨w.heap.size + 1 + 1 + 1 + 1, 0, none⟩), undef, .int .i64 d, .pointer (some ⟨w.heap.size, 0, none⟩), .slice a n c, .func (.func 194) #[] #[.pointer (some ⟨w.heap.size + 1 + 1 + 1 + 1 + 1, 0, none⟩)], .int .i64 (i.val : Nat), .int .i64 d, .int .i64 s3, .int .i64 s1, .int .i64 s2, .int .i64 (IntKind.i64.wrap (s1 + s2)), .int .i64 d, .int .i64 ((IntKind.i64.wrap (s1 + s2)).tmod d), .int .i64 s4, .int .i64 (IntKind.i64.wrap ((IntKind.i64.wrap (s1 + s2)).tmod d * s4)), .int .i64 (IntKind.i64.wrap (s3 + IntKind.i64.wrap ((IntKind.i64.wrap (s1 + s2)).tmod d * s4))), .int .i64 s1, .int .i64 d, .int .i64 (IntKind.i64.wrap (s1.tdiv d)), .int .i64 s2, .int .i64 d, .int .i64 (IntKind.i64.wrap (s2.tdiv d)), .int .i64 s4, .int .i64 d, .int .i64 (IntKind.i64.wrap (s4 * d)), undef], defers := [] } (((W1.setCell ⟨w.heap.size + 1, 0, none⟩ (.int .i64 (IntKind.i64.wrap (s1.tdiv d)))).setCell ⟨w.heap.size + 1 + 1, 0, none⟩ (.int .i64 (IntKind.i64.wrap (s2.tdiv d)))).setCell ⟨w.heap.size + 1 + 1 + 1 + 1, 0, none⟩ (.int .i64 (IntKind.i64.wrap (s4 * d)))).drew := by
      rw [← hQ]
      refine ⟨rfl, ?_⟩
      have HB2 := Lib.hid (show Below w.heap.size W1 (((W1.setCell ⟨w.heap.size + 1, 0, none⟩ (.int .i64 (IntKind.i64.wrap (s1.tdiv d)))).setCell ⟨w.heap.size + 1 + 1, 0, none⟩ (.int .i64 (IntKind.i64.wrap (s2.tdiv d)))).setCell ⟨w.heap.size + 1 + 1 + 1 + 1, 0, none⟩ (.int .i64 (IntKind.i64.wrap (s4 * d)))).drew from ((((Below.refl _ W1).setCell (p := ⟨w.heap.size + 1, 0, none⟩) (by simp) _).setCell (p := ⟨w.heap.size + 1 + 1, 0, none⟩) (by simp; omega) _).setCell (p := ⟨w.heap.size + 1 + 1 + 1 + 1, 0, none⟩) (by simp; omega) _).drew)
      have HBB := Lib.hid (HB1.out.trans HB2.out)
      have HK2 := Lib.hid (show KeepsFrom W0.heap.size W1 (((W1.setCell ⟨w.heap.size + 1, 0, none⟩ (.int .i64 (IntKind.i64.wrap (s1.tdiv d)))).setCell ⟨w.heap.size + 1 + 1, 0, none⟩ (.int .i64 (IntKind.i64.wrap (s2.tdiv d)))).setCell ⟨w.heap.size + 1 + 1 + 1 + 1, 0, none⟩ (.int .i64 (IntKind.i64.wrap (s4 * d)))).drew from ((((KeepsOthers.setCell _ _ _).trans (KeepsOthers.setCell _ _ _)).trans (KeepsOthers.setCell _ _ _)).trans (KeepsOthers.drew _)).from _)
      have HX := Lib.hid (((bX1.set (.int .i64 (IntKind.i64.wrap (s1.tdiv d)))).other (B' := w.heap.size + 1 + 1) (by omega) (.int .i64 (IntKind.i64.wrap (s2.tdiv d)))).other (B' := w.heap.size + 1 + 1 + 1 + 1) (by omega) (.int .i64 (IntKind.i64.wrap (s4 * d))))
      have HY := Lib.hid (((bY1.other (B' := w.heap.size + 1) (by omega) (.int .i64 (IntKind.i64.wrap (s1.tdiv d)))).set (.int .i64 (IntKind.i64.wrap (s2.tdiv d)))).other (B' := w.heap.size + 1 + 1 + 1 + 1) (by omega) (.int .i64 (IntKind.i64.wrap (s4 * d))))
      have HS := Lib.hid (((bS1.other (B' := w.heap.size + 1) (by omega) (.int .i64 (IntKind.i64.wrap (s1.tdiv d)))).other (B' := w.heap.size + 1 + 1) (by omega) (.int .i64 (IntKind.i64.wrap (s2.tdiv d)))).other (B' := w.heap.size + 1 + 1 + 1 + 1) (by omega) (.int .i64 (IntKind.i64.wrap (s4 * d))))
      have HP := Lib.hid (((bP1.other (B' := w.heap.size + 1) (by omega) (.int .i64 (IntKind.i64.wrap (s1.tdiv d)))).other (B' := w.heap.size + 1 + 1) (by omega) (.int .i64 (IntKind.i64.wrap (s2.tdiv d)))).set (.int .i64 (IntKind.i64.wrap (s4 * d))))
      have HL := Lib.hid (((bL1.other (B' := w.heap.size + 1) (by omega) (.int .i64 (IntKind.i64.wrap (s1.tdiv d)))).other (B' := w.heap.size + 1 + 1) (by omega) (.int .i64 (IntKind.i64.wrap (s2.tdiv d)))).other (B' := w.heap.size + 1 + 1 + 1 + 1) (by omega) (.int .i64 (IntKind.i64.wrap (s4 * d))))
      clear bX1 bY1 bS1 bP1 bL1 cX cY cP fX fY fP
      gi_wp2
      refine ⟨HK1.out.trans HK2.out, ⟨fun _ => HL.out, fun k hk => HBB.out.block k hk⟩, ?_⟩
      simp only [HSn.out]
      exact ⟨⟨⟨⟨⟨HX.out, HY.out⟩, HS.out⟩, HP.out⟩, HL.out⟩, hB.trans HBB.out⟩
    clear hQ
    refine wpAny_take (i := 1) (v := ?_) rfl (by kernel_rfl) (by kernel_rfl) (by kernel_rfl) (fun _ _ _ h => by cases hQn h) (Or.inl ⟨by rfl, ?_⟩) ?_
    rotate_left
    · (intro w; go_simp; try with_reducible rfl)
    refine wpAny_take (i := 4) (v := ?_) rfl (by kernel_rfl) (by kernel_rfl) (by kernel_rfl) (fun _ _ _ h => by cases hQn h) (Or.inl ⟨by rfl, ?_⟩) ?_
    rotate_left
    · (intro w; go_simp; try with_reducible rfl)
    refine wpAny_take (i := 7) (v := ?_) rfl (by kernel_rfl) (by kernel_rfl) (by kernel_rfl) (fun _ _ _ h => by cases hQn h) (Or.inl ⟨by rfl, ?_⟩) ?_
    rotate_left
    · (intro w; go_simp; try with_reducible rfl)
    refine wpAny_ready (rs := [0, 3, 6]) (by kernel_rfl) (by simp) ?_
    refine AllReady.cons rfl (fun K hK => ?_) ?_
    · go_simp
      refine hK _ _ ?_
      clear hK K
      refine wpAny_take (i := 2) (v := ?_) rfl (by kernel_rfl) (by kernel_rfl) (by kernel_rfl) (fun _ _ _ h => by cases hQn h) (Or.inl ⟨by rfl, ?_⟩) ?_
      rotate_left
      · (intro w; go_simp; try with_reducible rfl)
      refine wpAny_ready (rs := [3, 6, 9]) (by kernel_rfl) (by simp) ?_
      refine AllReady.cons rfl (fun K hK => ?_) ?_
      · go_simp
        refine hK _ _ ?_
        clear hK K
        refine wpAny_take (i := 5) (v := ?_) rfl (by kernel_rfl) (by kernel_rfl) (by kernel_rfl) (fun _ _ _ h => by cases hQn h) (Or.inl ⟨by rfl, ?_⟩) ?_
        rotate_left
        · (intro w; go_simp; try with_reducible rfl)
        refine wpAny_ready (rs := [6, 9]) (by kernel_rfl) (by simp) ?_
        refine AllReady.cons rfl (fun K hK => ?_) ?_
        · go_simp
          refine hK _ _ ?_
          clear hK K
          refine wpAny_take (i := 8) (v := ?_) rfl (by kernel_rfl) (by kernel_rfl) (by kernel_rfl) (fun _ _ _ h => by cases hQn h) (Or.inl ⟨by rfl, ?_⟩) ?_
          rotate_left
          · (intro w; go_simp; try with_reducible rfl)
          refine wpAny_ready (rs := [9]) (by kernel_rfl) (by simp) ?_
          refine AllReady.cons rfl (fun K hK => ?_) ?_
          · go_simp
            refine hK _ _ ?_
            clear hK K
            refine wpAny_ready (rs := [10]) (by kernel_rfl) (by simp) ?_
            refine AllReady.cons rfl (fun K hK => ?_) ?_
            · go_simp
              refine hK _ _ ?_
              clear hK K
              refine wpAny_ready (rs := [11]) (by kernel_rfl) (by simp) ?_
              refine AllReady.cons rfl (fun K hK => ?_) ?_
              · go_simp
                refine hK _ _ ?_
                clear hK K
                refine wpAny_done (by kernel_rfl) ?_ _
                exact HEnd
              exact AllReady.nil
            exact AllReady.nil
          exact AllReady.nil
        refine AllReady.cons rfl (fun K hK => ?_) ?_
        · go_simp
          refine hK _ _ ?_
          clear hK K
          refine wpAny_ready (rs := [6, 10]) (by kernel_rfl) (by simp) ?_
          refine AllReady.cons rfl (fun K hK => ?_) ?_
          · go_simp
            refine hK _ _ ?_
            clear hK K
            refine wpAny_take (i := 8) (v := ?_) rfl (by kernel_rfl) (by kernel_rfl) (by kernel_rfl) (fun _ _ _ h => by cases hQn h) (Or.inl ⟨by rfl, ?_⟩) ?_
            rotate_left
            · (intro w; go_simp; try with_reducible rfl)
            refine wpAny_ready (rs := [10]) (by kernel_rfl) (by simp) ?_
            refine AllReady.cons rfl (fun K hK => ?_) ?_
            · go_simp
              refine hK _ _ ?_
              clear hK K
              refine wpAny_ready (rs := [11]) (by kernel_rfl) (by simp) ?_
              refine AllReady.cons rfl (fun K hK => ?_) ?_
              · go_simp
                refine hK _ _ ?_
                clear hK K
                refine wpAny_done (by kernel_rfl) ?_ _
                exact HEnd
              exact AllReady.nil
            exact AllReady.nil
          refine AllReady.cons rfl (fun K hK => ?_) ?_
          · go_simp
            refine hK _ _ ?_
            clear hK K
            refine wpAny_ready (rs := [6]) (by kernel_rfl) (by simp) ?_
            refine AllReady.cons rfl (fun K hK => ?_) ?_
            · go_simp
              refine hK _ _ ?_
              clear hK K
              refine wpAny_take (i := 8) (v := ?_) rfl (by kernel_rfl) (by kernel_rfl) (by kernel_rfl) (fun _ _ _ h => by cases hQn h) (Or.inl ⟨by rfl, ?_⟩) ?_
              rotate_left
              · (intro w; go_simp; try with_reducible rfl)
              refine wpAny_ready (rs := [11]) (by kernel_rfl) (by simp) ?_
              refine AllReady.cons rfl (fun K hK => ?_) ?_
              · go_simp
                refine hK _ _ ?_
                clear hK K
                refine wpAny_done (by kernel_rfl) ?_ _
                exact HEnd
              exact AllReady.nil
            exact AllReady.nil
          exact AllReady.nil
        exact AllReady.nil
      refine AllReady.cons rfl (fun K hK => ?_) ?_
      · go_simp
        refine hK _ _ ?_
        clear hK K
        refine wpAny_take (i := 8) (v := ?_) rfl (by kernel_rfl) (by kernel_rfl) (by kernel_rfl) (fun _ _ _ h => by cases hQn h) (Or.inl ⟨by rfl, ?_⟩) ?_
        rotate_left
        · (intro w; go_simp; try with_reducible rfl)
        refine wpAny_ready (rs := [3, 9]) (by kernel_rfl) (by simp) ?_
        refine AllReady.cons rfl (fun K hK => ?_) ?_
        · go_simp
          refine hK _ _ ?_
          clear hK K
          refine wpAny_take (i := 5) (v := ?_) rfl (by kernel_rfl) (by kernel_rfl) (by kernel_rfl) (fun _ _ _ h => by cases hQn h) (Or.inl ⟨by rfl, ?_⟩) ?_
          rotate_left
          · (intro w; go_simp; try with_reducible rfl)
          refine wpAny_ready (rs := [9]) (by kernel_rfl) (by simp) ?_
          refine AllReady.cons rfl (fun K hK => ?_) ?_
          · go_simp
            refine hK _ _ ?_
            clear hK K
            refine wpAny_ready (rs := [10]) (by kernel_rfl) (by simp) ?_
            refine AllReady.cons rfl (fun K hK => ?_) ?_
            · go_simp
              refine hK _ _ ?_
              clear hK K
              refine wpAny_ready (rs := [11]) (by kernel_rfl) (by simp) ?_
              refine AllReady.cons rfl (fun K hK => ?_) ?_
              · go_simp
                refine hK _ _ ?_
                clear hK K
                refine wpAny_done (by kernel_rfl) ?_ _
                exact HEnd
              exact AllReady.nil
            exact AllReady.nil
          exact AllReady.nil
        refine AllReady.cons rfl (fun K hK => ?_) ?_
        · go_simp
          refine hK _ _ ?_
          clear hK K
          refine wpAny_ready (rs := [3]) (by kernel_rfl) (by simp) ?_
          refine AllReady.cons rfl (fun K hK => ?_) ?_
          · go_simp
            refine hK _ _ ?_
            clear hK K
            refine wpAny_take (i := 5) (v := ?_) rfl (by kernel_rfl) (by kernel_rfl) (by kernel_rfl) (fun _ _ _ h => by cases hQn h) (Or.inl ⟨by rfl, ?_⟩) ?_
            rotate_left
            · (intro w; go_simp; try with_reducible rfl)
            refine wpAny_ready (rs := [10]) (by kernel_rfl) (by simp) ?_
            refine AllReady.cons rfl (fun K hK => ?_) ?_
            · go_simp
              refine hK _ _ ?_
              clear hK K
              refine wpAny_ready (rs := [11]) (by kernel_rfl) (by simp) ?_
              refine AllReady.cons rfl (fun K hK => ?_) ?_
              · go_simp
                refine hK _ _ ?_
                clear hK K
                refine wpAny_done (by kernel_rfl) ?_ _
                exact HEnd
              exact AllReady.nil
            exact AllReady.nil
          exact AllReady.nil
        exact AllReady.nil
      refine AllReady.cons rfl (fun K hK => ?_) ?_
      · go_simp
        refine hK _ _ ?_
        clear hK K
        refine wpAny_ready (rs := [3, 6]) (by kernel_rfl) (by simp) ?_
        refine AllReady.cons rfl (fun K hK => ?_) ?_
        · go_simp
          refine hK _ _ ?_
          clear hK K
          refine wpAny_take (i := 5) (v := ?_) rfl (by kernel_rfl) (by kernel_rfl) (by kernel_rfl) (fun _ _ _ h => by cases hQn h) (Or.inl ⟨by rfl, ?_⟩) ?_
          rotate_left
          · (intro w; go_simp; try with_reducible rfl)
          refine wpAny_ready (rs := [6, 10]) (by kernel_rfl) (by simp) ?_
          refine AllReady.cons rfl (fun K hK => ?_) ?_
          · go_simp
            refine hK _ _ ?_
            clear hK K
            refine wpAny_take (i := 8) (v := ?_) rfl (by kernel_rfl) (by kernel_rfl) (by kernel_rfl) (fun _ _ _ h => by cases hQn h) (Or.inl ⟨by rfl, ?_⟩) ?_
            rotate_left
            · (intro w; go_simp; try with_reducible rfl)
            refine wpAny_ready (rs := [10]) (by kernel_rfl) (by simp) ?_
            refine AllReady.cons rfl (fun K hK => ?_) ?_
            · go_simp
              refine hK _ _ ?_
              clear hK K
              refine wpAny_ready (rs := [11]) (by kernel_rfl) (by simp) ?_
              refine AllReady.cons rfl (fun K hK => ?_) ?_
              · go_simp
                refine hK _ _ ?_
                clear hK K
                refine wpAny_done (by kernel_rfl) ?_ _
                exact HEnd
              exact AllReady.nil
            exact AllReady.nil
          refine AllReady.cons rfl (fun K hK => ?_) ?_
          · go_simp
            refine hK _ _ ?_
            clear hK K
            refine wpAny_ready (rs := [6]) (by kernel_rfl) (by simp) ?_
            refine AllReady.cons rfl (fun K hK => ?_) ?_
            · go_simp
              refine hK _ _ ?_
              clear hK K
              refine wpAny_take (i := 8) (v := ?_) rfl (by kernel_rfl) (by kernel_rfl) (by kernel_rfl) (fun _ _ _ h => by cases hQn h) (Or.inl ⟨by rfl, ?_⟩) ?_
              rotate_left
              · (intro w; go_simp; try with_reducible rfl)
              refine wpAny_ready (rs := [11]) (by kernel_rfl) (by simp) ?_
              refine AllReady.cons rfl (fun K hK => ?_) ?_
              · go_simp
                refine hK _ _ ?_
                clear hK K
                refine wpAny_done (by kernel_rfl) ?_ _
                exact HEnd
              exact AllReady.nil
            exact AllReady.nil
          exact AllReady.nil
        refine AllReady.cons rfl (fun K hK => ?_) ?_
        · go_simp
          refine hK _ _ ?_
          clear hK K
          refine wpAny_take (i := 8) (v := ?_) rfl (by kernel_rfl) (by kernel_rfl) (by kernel_rfl) (fun _ _ _ h => by cases hQn h) (Or.inl ⟨by rfl, ?_⟩) ?_
          rotate_left
          · (intro w; go_simp; try with_reducible rfl)
          refine wpAny_ready (rs := [3]) (by kernel_rfl) (by simp) ?_
          refine AllReady.cons rfl (fun K hK => ?_) ?_
          · go_simp
            refine hK _ _ ?_
            clear hK K
            refine wpAny_take (i := 5) (v := ?_) rfl (by kernel_rfl) (by kernel_rfl) (by kernel_rfl) (fun _ _ _ h => by cases hQn h) (Or.inl ⟨by rfl, ?_⟩) ?_
            rotate_left
            · (intro w; go_simp; try with_reducible rfl)
            refine wpAny_ready (rs := [10]) (by kernel_rfl) (by simp) ?_
            refine AllReady.cons rfl (fun K hK => ?_) ?_
            · go_simp
              refine hK _ _ ?_
              clear hK K
              refine wpAny_ready (rs := [11]) (by kernel_rfl) (by simp) ?_
              refine AllReady.cons rfl (fun K hK => ?_) ?_
              · go_simp
                refine hK _ _ ?_
                clear hK K
                refine wpAny_done (by kernel_rfl) ?_ _
                exact HEnd
              exact AllReady.nil
            exact AllReady.nil
          exact AllReady.nil
        exact AllReady.nil
      exact AllReady.nil
    refine AllReady.cons rfl (fun K hK => ?_) ?_
    · go_simp
      refine hK _ _ ?_
      clear hK K
      refine wpAny_take (i := 5) (v := ?_) rfl (by kernel_rfl) (by kernel_rfl) (by kernel_rfl) (fun _ _ _ h => by cases hQn h) (Or.inl ⟨by rfl, ?_⟩) ?_
      rotate_left
      · (intro w; go_simp; try with_reducible rfl)
      refine wpAny_ready (rs := [0, 6]) (by kernel_rfl) (by simp) ?_
      refine AllReady.cons rfl (fun K hK => ?_) ?_
      · go_simp
        refine hK _ _ ?_
        clear hK K
        refine wpAny_take (i := 2) (v := ?_) rfl (by kernel_rfl) (by kernel_rfl) (by kernel_rfl) (fun _ _ _ h => by cases hQn h) (Or.inl ⟨by rfl, ?_⟩) ?_
        rotate_left
        · (intro w; go_simp; try with_reducible rfl)
        refine wpAny_ready (rs := [6, 9]) (by kernel_rfl) (by simp) ?_
        refine AllReady.cons rfl (fun K hK => ?_) ?_
        · go_simp
          refine hK _ _ ?_
          clear hK K
          refine wpAny_take (i := 8) (v := ?_) rfl (by kernel_rfl) (by kernel_rfl) (by kernel_rfl) (fun _ _ _ h => by cases hQn h) (Or.inl ⟨by rfl, ?_⟩) ?_
          rotate_left
          · (intro w; go_simp; try with_reducible rfl)
          refine wpAny_ready (rs := [9]) (by kernel_rfl) (by simp) ?_
          refine AllReady.cons rfl (fun K hK => ?_) ?_
          · go_simp
            refine hK _ _ ?_
            clear hK K
            refine wpAny_ready (rs := [10]) (by kernel_rfl) (by simp) ?_
            refine AllReady.cons rfl (fun K hK => ?_) ?_
            · go_simp
              refine hK _ _ ?_
              clear hK K
              refine wpAny_ready (rs := [11]) (by kernel_rfl) (by simp) ?_
              refine AllReady.cons rfl (fun K hK => ?_) ?_
              · go_simp
                refine hK _ _ ?_
                clear hK K
                refine wpAny_done (by kernel_rfl) ?_ _
                exact HEnd
              exact AllReady.nil
            exact AllReady.nil
          exact AllReady.nil
        refine AllReady.cons rfl (fun K hK => ?_) ?_
        · go_simp
          refine hK _ _ ?_
          clear hK K
          refine wpAny_ready (rs := [6, 10]) (by kernel_rfl) (by simp) ?_
          refine AllReady.cons rfl (fun K hK => ?_) ?_
          · go_simp
            refine hK _ _ ?_
            clear hK K
            refine wpAny_take (i := 8) (v := ?_) rfl (by kernel_rfl) (by kernel_rfl) (by kernel_rfl) (fun _ _ _ h => by cases hQn h) (Or.inl ⟨by rfl, ?_⟩) ?_
            rotate_left
            · (intro w; go_simp; try with_reducible rfl)
            refine wpAny_ready (rs := [10]) (by kernel_rfl) (by simp) ?_
            refine AllReady.cons rfl (fun K hK => ?_) ?_
            · go_simp
              refine hK _ _ ?_
              clear hK K
              refine wpAny_ready (rs := [11]) (by kernel_rfl) (by simp) ?_
              refine AllReady.cons rfl (fun K hK => ?_) ?_
              · go_simp
                refine hK _ _ ?_
                clear hK K
                refine wpAny_done (by kernel_rfl) ?_ _
                exact HEnd
              exact AllReady.nil
            exact AllReady.nil
          refine AllReady.cons rfl (fun K hK => ?_) ?_
          · go_simp
            refine hK _ _ ?_
            clear hK K
            refine wpAny_ready (rs := [6]) (by kernel_rfl) (by simp) ?_
            refine AllReady.cons rfl (fun K hK => ?_) ?_
            · go_simp
              refine hK _ _ ?_
              clear hK K
              refine wpAny_take (i := 8) (v := ?_) rfl (by kernel_rfl) (by kernel_rfl) (by kernel_rfl) (fun _ _ _ h => by cases hQn h) (Or.inl ⟨by rfl, ?_⟩) ?_
              rotate_left
              · (intro w; go_simp; try with_reducible rfl)
              refine wpAny_ready (rs := [11]) (by kernel_rfl) (by simp) ?_
              refine AllReady.cons rfl (fun K hK => ?_) ?_
              · go_simp
                refine hK _ _ ?_
                clear hK K
                refine wpAny_done (by kernel_rfl) ?_ _
                exact HEnd
              exact AllReady.nil
            exact AllReady.nil
          exact AllReady.nil
        exact AllReady.nil
      refine AllReady.cons rfl (fun K hK => ?_) ?_
      · go_simp
        refine hK _ _ ?_
        clear hK K
        refine wpAny_take (i := 8) (v := ?_) rfl (by kernel_rfl) (by kernel_rfl) (by kernel_rfl) (fun _ _ _ h => by cases hQn h) (Or.inl ⟨by rfl, ?_⟩) ?_
        rotate_left
        · (intro w; go_simp; try with_reducible rfl)
        refine wpAny_ready (rs := [0]) (by kernel_rfl) (by simp) ?_
        refine AllReady.cons rfl (fun K hK => ?_) ?_
        · go_simp
          refine hK _ _ ?_
          clear hK K
          refine wpAny_take (i := 2) (v := ?_) rfl (by kernel_rfl) (by kernel_rfl) (by kernel_rfl) (fun _ _ _ h => by cases hQn h) (Or.inl ⟨by rfl, ?_⟩) ?_
          rotate_left
          · (intro w; go_simp; try with_reducible rfl)
          refine wpAny_ready (rs := [9]) (by kernel_rfl) (by simp) ?_
          refine AllReady.cons rfl (fun K hK => ?_) ?_
          · go_simp
            refine hK _ _ ?_
            clear hK K
            refine wpAny_ready (rs := [10]) (by kernel_rfl) (by simp) ?_
            refine AllReady.cons rfl (fun K hK => ?_) ?_
            · go_simp
              refine hK _ _ ?_
              clear hK K
              refine wpAny_ready (rs := [11]) (by kernel_rfl) (by simp) ?_
              refine AllReady.cons rfl (fun K hK => ?_) ?_
              · go_simp
                refine hK _ _ ?_
                clear hK K
                refine wpAny_done (by kernel_rfl) ?_ _
                exact HEnd
              exact AllReady.nil
            exact AllReady.nil
          exact AllReady.nil
        exact AllReady.nil
      exact AllReady.nil
    refine AllReady.cons rfl (fun K hK => ?_) ?_
    · go_simp
      refine hK _ _ ?_
      clear hK K
      refine wpAny_take (i := 8) (v := ?_) rfl (by kernel_rfl) (by kernel_rfl) (by kernel_rfl) (fun _ _ _ h => by cases hQn h) (Or.inl ⟨by rfl, ?_⟩) ?_
      rotate_left
      · (intro w; go_simp; try with_reducible rfl)
      refine wpAny_ready (rs := [0, 3]) (by kernel_rfl) (by simp) ?_
      refine AllReady.cons rfl (fun K hK => ?_) ?_
      · go_simp
        refine hK _ _ ?_
        clear hK K
        refine wpAny_take (i := 2) (v := ?_) rfl (by kernel_rfl) (by kernel_rfl) (by kernel_rfl) (fun _ _ _ h => by cases hQn h) (Or.inl ⟨by rfl, ?_⟩) ?_
        rotate_left
        · (intro w; go_simp; try with_reducible rfl)
        refine wpAny_ready (rs := [3, 9]) (by kernel_rfl) (by simp) ?_
        refine AllReady.cons rfl (fun K hK => ?_) ?_
        · go_simp
          refine hK _ _ ?_
          clear hK K
          refine wpAny_take (i := 5) (v := ?_) rfl (by kernel_rfl) (by kernel_rfl) (by kernel_rfl) (fun _ _ _ h => by cases hQn h) (Or.inl ⟨by rfl, ?_⟩) ?_
          rotate_left
          · (intro w; go_simp; try with_reducible rfl)
          refine wpAny_ready (rs := [9]) (by kernel_rfl) (by simp) ?_
          refine AllReady.cons rfl (fun K hK => ?_) ?_
          · go_simp
            refine hK _ _ ?_
            clear hK K
            refine wpAny_ready (rs := [10]) (by kernel_rfl) (by simp) ?_
            refine AllReady.cons rfl (fun K hK => ?_) ?_
            · go_simp
              refine hK _ _ ?_
              clear hK K
              refine wpAny_ready (rs := [11]) (by kernel_rfl) (by simp) ?_
              refine AllReady.cons rfl (fun K hK => ?_) ?_
              · go_simp
                refine hK _ _ ?_
                clear hK K
                refine wpAny_done (by kernel_rfl) ?_ _
                exact HEnd
              exact AllReady.nil
            exact AllReady.nil
          exact AllReady.nil
        refine AllReady.cons rfl (fun K hK => ?_) ?_
        · go_simp
          refine hK _ _ ?_
          clear hK K
          refine wpAny_ready (rs := [3]) (by kernel_rfl) (by simp) ?_
          refine AllReady.cons rfl (fun K hK => ?_) ?_
          · go_simp
            refine hK _ _ ?_
            clear hK K
            refine wpAny_take (i := 5) (v := ?_) rfl (by kernel_rfl) (by kernel_rfl) (by kernel_rfl) (fun _ _ _ h => by cases hQn h) (Or.inl ⟨by rfl, ?_⟩) ?_
            rotate_left
            · (intro w; go_simp; try with_reducible rfl)
            refine wpAny_ready (rs := [10]) (by kernel_rfl) (by simp) ?_
            refine AllReady.cons rfl (fun K hK => ?_) ?_
            · go_simp
              refine hK _ _ ?_
              clear hK K
              refine wpAny_ready (rs := [11]) (by kernel_rfl) (by simp) ?_
              refine AllReady.cons rfl (fun K hK => ?_) ?_
              · go_simp
                refine hK _ _ ?_
                clear hK K
                refine wpAny_done (by kernel_rfl) ?_ _
                exact HEnd
              exact AllReady.nil
            exact AllReady.nil
          exact AllReady.nil
        exact AllReady.nil
      refine AllReady.cons rfl (fun K hK => ?_) ?_
      · go_simp
        refine hK _ _ ?_
        clear hK K
        refine wpAny_take (i := 5) (v := ?_) rfl (by kernel_rfl) (by kernel_rfl) (by kernel_rfl) (fun _ _ _ h => by cases hQn h) (Or.inl ⟨by rfl, ?_⟩) ?_
        rotate_left
        · (intro w; go_simp; try with_reducible rfl)
        refine wpAny_ready (rs := [0]) (by kernel_rfl) (by simp) ?_
        refine AllReady.cons rfl (fun K hK => ?_) ?_
        · go_simp
          refine hK _ _ ?_
          clear hK K
          refine wpAny_take (i := 2) (v := ?_) rfl (by kernel_rfl) (by kernel_rfl) (by kernel_rfl) (fun _ _ _ h => by cases hQn h) (Or.inl ⟨by rfl, ?_⟩) ?_
          rotate_left
          · (intro w; go_simp; try with_reducible rfl)
          refine wpAny_ready (rs := [9]) (by kernel_rfl) (by simp) ?_
          refine AllReady.cons rfl (fun K hK => ?_) ?_
          · go_simp
            refine hK _ _ ?_
            clear hK K
            refine wpAny_ready (rs := [10]) (by kernel_rfl) (by simp) ?_
            refine AllReady.cons rfl (fun K hK => ?_) ?_
            · go_simp
              refine hK _ _ ?_
              clear hK K
              refine wpAny_ready (rs := [11]) (by kernel_rfl) (by simp) ?_
              refine AllReady.cons rfl (fun K hK => ?_) ?_
              · go_simp
                refine hK _ _ ?_
                clear hK K
                refine wpAny_done (by kernel_rfl) ?_ _
                exact HEnd
              exact AllReady.nil
            exact AllReady.nil
          exact AllReady.nil
        exact AllReady.nil
      exact AllReady.nil
    exact AllReady.nil
  case done =>
    rintro D zs W hD hz ⟨⟨⟨⟨⟨bX, bY⟩, bS⟩, bP⟩, bL⟩, hB⟩ hK
    rw [hz, HF.out] at bS
    have cS := bS.cell
    clear hz
    gi_wp2
    refine ⟨by simp, .inl ⟨_, _, rfl, run_takeDeferred hK, ?_⟩⟩
    exact ⟨_, results_tmp rfl _ _ _, rfl, hB.trans (belowK_b (w := w) (Nat.le_refl _) W D _ _ (by omega) hK rfl rfl)⟩
  case stop =>
    rintro D c pre W hD hpre h _
    exact h.elim
end Go.Proofs.Ytmdmojklagmmiaa
