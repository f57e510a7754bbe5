/- The cosets of a subring: of the program. -/
import Derived.Test.YtpfodikmidgpmaaDoorSbK
namespace Go.Proofs.YtpfodikmidgpmaaDoor
open Go.RowKit
set_option linter.unusedSimpArgs false
set_option linter.unusedVariables false
attribute [local go_sem] Oper.semAt_some
theorem pow_i64w {k : Nat} (hk : k ≤ 40) : IntKind.i64.wrap ((2 : Int) ^ k) = ((2 ^ k : Nat) : Int) := by
  have : 2 ^ k ≤ 2 ^ 40 := Nat.pow_le_pow_right (by omega) hk
  have e : ((2 : Int) ^ k) = ((2 ^ k : Nat) : Int) := by rw [Int.natCast_pow]; rfl
  rw [e]
  obtain ⟨x, hx⟩ : ∃ x, x = 2 ^ k := ⟨_, rfl⟩
  rw [← hx] at this ⊢
  exact IntWalk.i64_in _ (by omega)
/-- a row speaks of cells alone -/
theorem rowI_own {β : Type} (g : Nat) (t : TypeId) (n : Nat) (F : β → Nat → Int) : Own (fun s W => RowI W t g n (F s)) := fun s X Y row hs hg hrow => by
  obtain ⟨c, hc, hv⟩ := (show RowB X t g n _ from hs)
  have hlt : g < X.heap.size := (Array.getElem?_eq_some_iff.1 hc).1
  refine RowB.of_block (show RowB X t g n _ from hs) (hg.block g hlt fun e => ?_)
  obtain ⟨o, ho, hcc⟩ := hrow g e.symm
  rw [hc] at ho; cases ho; cases hcc
theorem keepsFrom_below {B : Nat} {W W' : World} (hb : Below W.heap.size W W') : KeepsFrom B W W' :=
  ⟨hb.size, fun k o _ h0 _ => (hb.block k (Array.getElem?_eq_some_iff.1 h0).1).trans h0⟩
theorem boxed_far {W : World} {B : Nat} {t : TypeId} {v : Value} (h : Boxed W B t v) {a : Addr} (ha : B ≠ a.block) (u : Value) : Boxed (W.setCell a u) B t v := (Below.heap_setCell W a u B ha).trans h
/-- the coset of i -/
noncomputable def cosI (n : Nat) (f : Nat → Nat → Nat → Int) (s i : Nat) : Nat := prl (occ n f) (lbl (2 ^ i)) (lbl s)
theorem cosI_bit {n : Nat} {f : Nat → Nat → Nat → Int} {s i k : Nat} (h16 : n ≤ 16) (hs : s < 2 ^ n) (hi : i < n) : (cosI n f s i).testBit k = true ↔ k < n ∧ ∃ j, j < n ∧ s.testBit j = true ∧ f i j k ≠ 0 := by
  have hp := pow_le16 h16
  have h6 : s < 65536 := by omega
  have hi6 : 2 ^ i < 65536 := Nat.lt_of_lt_of_le (Nat.pow_lt_pow_right (by omega) hi) hp
  unfold cosI
  rw [prl_bit]
  constructor
  · rintro ⟨i', hi', j, hj, hb⟩
    have := two_bit.1 ((mem_lbl hi6).1 hi')
    subst this
    have bj := (mem_lbl h6).1 hj
    obtain ⟨hk, hf⟩ := occ_bit.1 hb
    exact ⟨hk, j, bit_lt hs bj, bj, hf⟩
  · rintro ⟨hk, j, hj, bj, hf⟩
    exact ⟨i, (mem_lbl hi6).2 (two_bit.2 rfl), j, (mem_lbl h6).2 bj, occ_bit.2 ⟨hk, hf⟩⟩
theorem cosI_lt {n : Nat} {f : Nat → Nat → Nat → Int} {s i : Nat} : cosI n f s i < 2 ^ n := prl_occ_lt
/-- the numbers, their count, and the labels that have one -/
noncomputable def csStep (n : Nat) (f : Nat → Nat → Nat → Int) (s : Nat) (st : (Nat → Int) × Nat × Nat) (i : Nat) : (Nat → Int) × Nat × Nat :=
  if st.2.2.testBit i = true then st else (fun q => if q ∈ lbl (cosI n f s i) then (st.2.1 : Int) else st.1 q, st.2.1 + 1, st.2.2 ||| cosI n f s i)
noncomputable def csSt (n : Nat) (f : Nat → Nat → Nat → Int) (s : Nat) (l : List Nat) : (Nat → Int) × Nat × Nat := l.foldl (csStep n f s) (fun _ => 0, 0, 0)
theorem csSt_snoc (n : Nat) (f : Nat → Nat → Nat → Int) (s : Nat) (l : List Nat) (i : Nat) : csSt n f s (l ++ [i]) = csStep n f s (csSt n f s l) i := by simp [csSt]
theorem csSt_bd (n : Nat) (f : Nat → Nat → Nat → Int) (s : Nat) (l : List Nat) : (csSt n f s l).2.1 ≤ l.length ∧ (csSt n f s l).2.2 < 2 ^ n := by
  have : ∀ (l : List Nat) (st : (Nat → Int) × Nat × Nat), st.2.2 < 2 ^ n → (l.foldl (csStep n f s) st).2.1 ≤ st.2.1 + l.length ∧ (l.foldl (csStep n f s) st).2.2 < 2 ^ n := by
    intro l
    induction l with
    | nil => exact fun st h => ⟨by simp, h⟩
    | cons i l ih =>
      intro st h
      rw [List.foldl_cons]
      have h1 : (csStep n f s st i).2.2 < 2 ^ n := by
        unfold csStep; split
        · exact h
        · exact Nat.or_lt_two_pow h cosI_lt
      have h2 : (csStep n f s st i).2.1 ≤ st.2.1 + 1 := by
        unfold csStep; split
        · omega
        · exact Nat.le_refl _
      obtain ⟨a, b⟩ := ih _ h1
      exact ⟨by simp only [List.length_cons]; omega, b⟩
  obtain ⟨a, b⟩ := this l (fun _ => 0, 0, 0) (Nat.pow_pos (by omega))
  exact ⟨by unfold csSt; simpa using a, b⟩
theorem csSt_yes {n : Nat} {f : Nat → Nat → Nat → Int} {s : Nat} {l : List Nat} {i : Nat} (h : (csSt n f s l).2.2.testBit i = true) : csSt n f s (l ++ [i]) = csSt n f s l := by
  rw [csSt_snoc]; unfold csStep; rw [if_pos h]
theorem csSt_no {n : Nat} {f : Nat → Nat → Nat → Int} {s : Nat} {l : List Nat} {i : Nat} (h : (csSt n f s l).2.2.testBit i = false) : csSt n f s (l ++ [i]) = (fun q => if q ∈ lbl (cosI n f s i) then ((csSt n f s l).2.1 : Int) else (csSt n f s l).1 q, (csSt n f s l).2.1 + 1, (csSt n f s l).2.2 ||| cosI n f s i) := by
  rw [csSt_snoc]; unfold csStep; rw [if_neg (by rw [h]; simp)]
/-- the number of the coset of a label -/
noncomputable def csN (n : Nat) (f : Nat → Nat → Nat → Int) (s : Nat) : Nat → Int := (csSt n f s (lbl (allS n))).1
theorem infoI : (Tryd.prog.info? 2).map (fun i => (i.zero, i.size, i.bytes)) = some (some (.int .i64 0), 1, 8) := by kernel_rfl
set_option maxRecDepth 100000 in
set_option maxHeartbeats 2000000 in
theorem cosets_f (b off n c : Nat) (B O C : Nat → Nat) (f : Nat → Nat → Nat → Int) (s : Nat) (w : World) (h : OccP w b off n B O C (occ n f)) (h0 : 0 < n) (h16 : n ≤ 16) (hs : s < 2 ^ n) :
    Calls Tryd.prog 49 #[.slice (some ⟨b, off, none⟩) n c, .int .i64 s] w fun e w' => ∃ g, e = .returned (.slice (some ⟨g, 0, none⟩) n n) ∧ w.heap.size ≤ g ∧ RowI w' 2 g n (csN n f s) ∧ Below w.heap.size w w' := by
  have hp := pow_le16 h16
  have hs6 : s < 65536 := by omega
  have hal := allS_lt n
  have hal6 : allS n < 65536 := by omega
  have hmk := run_make_row' (P := Tryd.prog) 38 2 (.int .i64 0) 8 Tryd.underlying38 infoI rfl .i64 .i64 n (by omega) (by omega)
  refine (callsIn_wide (n := 9)).1 ?_
  refine callsIn_of_wp_marks Tryd.func49 rfl trivial ?_ rfl
  simp only [Tryd.ntmps49, List.size_toArray, List.length_cons, List.length_nil, Nat.reduceAdd, Nat.reduceSub, Array.replicate_succ, Array.replicate_zero, List.push_toArray, List.append_toArray, List.nil_append, List.cons_append]
  gi_wp2_with first | (refine ⟨trivial, ?_⟩; gi_at_call 51; refine (callsIn_wide.2 (all_f (some ⟨b, off, none⟩) n c _ h16)).mono ?_; rintro e w1 ⟨rfl, rfl⟩) | (refine ⟨trivial, ?_⟩; gi_at_call 59; refine (callsIn_wide.2 (labels_f (allS n) _)).mono ?_; rintro e w1 ⟨rfl, rfl⟩)
  have HO := Lib.hid h
  clear h hmk
  have b0 := (((((((Boxed.new (w) 43 (.slice (some ⟨b, off, none⟩) n c))).alloc (.cells #[.int .i64 s] 59)).alloc (.cells (madeCells #[.int .i64 0] n) 2)).alloc (.cells #[.slice (some ⟨w.heap.size + 1 + 1, 0, none⟩) n n] 38)).alloc (.cells #[.int .i64 0] 2)).alloc (.cells #[.int .i64 0] 59)).alloc (.cells #[.int .i64 (allS n : Nat)] 59)
  have b1 := ((((((Boxed.new (w.alloc (.cells #[.slice (some ⟨b, off, none⟩) n c] 43)) 59 (.int .i64 s))).alloc (.cells (madeCells #[.int .i64 0] n) 2)).alloc (.cells #[.slice (some ⟨w.heap.size + 1 + 1, 0, none⟩) n n] 38)).alloc (.cells #[.int .i64 0] 2)).alloc (.cells #[.int .i64 0] 59)).alloc (.cells #[.int .i64 (allS n : Nat)] 59)
  have b3 := ((((Boxed.new (((w.alloc (.cells #[.slice (some ⟨b, off, none⟩) n c] 43)).alloc (.cells #[.int .i64 s] 59)).alloc (.cells (madeCells #[.int .i64 0] n) 2)) 38 (.slice (some ⟨w.heap.size + 1 + 1, 0, none⟩) n n))).alloc (.cells #[.int .i64 0] 2)).alloc (.cells #[.int .i64 0] 59)).alloc (.cells #[.int .i64 (allS n : Nat)] 59)
  have b4 := (((Boxed.new ((((w.alloc (.cells #[.slice (some ⟨b, off, none⟩) n c] 43)).alloc (.cells #[.int .i64 s] 59)).alloc (.cells (madeCells #[.int .i64 0] n) 2)).alloc (.cells #[.slice (some ⟨w.heap.size + 1 + 1, 0, none⟩) n n] 38)) 2 (.int .i64 0))).alloc (.cells #[.int .i64 0] 59)).alloc (.cells #[.int .i64 (allS n : Nat)] 59)
  have b5 := ((Boxed.new (((((w.alloc (.cells #[.slice (some ⟨b, off, none⟩) n c] 43)).alloc (.cells #[.int .i64 s] 59)).alloc (.cells (madeCells #[.int .i64 0] n) 2)).alloc (.cells #[.slice (some ⟨w.heap.size + 1 + 1, 0, none⟩) n n] 38)).alloc (.cells #[.int .i64 0] 2)) 59 (.int .i64 0))).alloc (.cells #[.int .i64 (allS n : Nat)] 59)
  have b6 := Boxed.new ((((((w.alloc (.cells #[.slice (some ⟨b, off, none⟩) n c] 43)).alloc (.cells #[.int .i64 s] 59)).alloc (.cells (madeCells #[.int .i64 0] n) 2)).alloc (.cells #[.slice (some ⟨w.heap.size + 1 + 1, 0, none⟩) n n] 38)).alloc (.cells #[.int .i64 0] 2)).alloc (.cells #[.int .i64 0] 59)) 59 (.int .i64 (allS n : Nat))
  have r2 : RowI (((((((w.alloc (.cells #[.slice (some ⟨b, off, none⟩) n c] 43)).alloc (.cells #[.int .i64 s] 59)).alloc (.cells (madeCells #[.int .i64 0] n) 2)).alloc (.cells #[.slice (some ⟨w.heap.size + 1 + 1, 0, none⟩) n n] 38)).alloc (.cells #[.int .i64 0] 2)).alloc (.cells #[.int .i64 0] 59)).alloc (.cells #[.int .i64 (allS n : Nat)] 59)) 2 (w.heap.size + 1 + 1) n (fun _ => 0) := by
    have hr := RowB_of_rowIs (World.rowIs_made ((w.alloc (.cells #[.slice (some ⟨b, off, none⟩) n c] 43)).alloc (.cells #[.int .i64 s] 59)) (.int .i64 0) n 2)
    simp only [World.size_alloc] at hr
    exact (((hr.alloc (.cells #[.slice (some ⟨w.heap.size + 1 + 1, 0, none⟩) n n] 38)).alloc (.cells #[.int .i64 0] 2)).alloc (.cells #[.int .i64 0] 59)).alloc (.cells #[.int .i64 (allS n : Nat)] 59)
  simp only [World.size_alloc] at b0 b1 b3 b4 b5 b6
  have hB0 : Below w.heap.size w (((((((w.alloc (.cells #[.slice (some ⟨b, off, none⟩) n c] 43)).alloc (.cells #[.int .i64 s] 59)).alloc (.cells (madeCells #[.int .i64 0] n) 2)).alloc (.cells #[.slice (some ⟨w.heap.size + 1 + 1, 0, none⟩) n n] 38)).alloc (.cells #[.int .i64 0] 2)).alloc (.cells #[.int .i64 0] 59)).alloc (.cells #[.int .i64 (allS n : Nat)] 59)) := (((((((Below.refl _ w).alloc (Nat.le_refl _) _).alloc (by simp) _).alloc (by simp; omega) _).alloc (by simp; omega) _).alloc (by simp; omega) _).alloc (by simp; omega) _).alloc (by simp; omega) _
  have hsz : (((((((w.alloc (.cells #[.slice (some ⟨b, off, none⟩) n c] 43)).alloc (.cells #[.int .i64 s] 59)).alloc (.cells (madeCells #[.int .i64 0] n) 2)).alloc (.cells #[.slice (some ⟨w.heap.size + 1 + 1, 0, none⟩) n n] 38)).alloc (.cells #[.int .i64 0] 2)).alloc (.cells #[.int .i64 0] 59)).alloc (.cells #[.int .i64 (allS n : Nat)] 59)).heap.size = w.heap.size + 7 := by simp
  obtain ⟨W0, hW0⟩ : ∃ W0, (((((((w.alloc (.cells #[.slice (some ⟨b, off, none⟩) n c] 43)).alloc (.cells #[.int .i64 s] 59)).alloc (.cells (madeCells #[.int .i64 0] n) 2)).alloc (.cells #[.slice (some ⟨w.heap.size + 1 + 1, 0, none⟩) n n] 38)).alloc (.cells #[.int .i64 0] 2)).alloc (.cells #[.int .i64 0] 59)).alloc (.cells #[.int .i64 (allS n : Nat)] 59)) = W0 := ⟨_, rfl⟩
  rw [hW0] at b0 b1 b3 b4 b5 b6 r2 hB0 hsz ⊢
  clear hW0
  have hmx : Tryd.prog.follows .mixedOrders = true := by kernel_rfl
  refine wpIn_rangeFunc_ownH (α := Fin n) rfl (by omega) (gf := 66) (lb := #[.pointer (some ⟨w.heap.size + 1 + 1 + 1 + 1 + 1 + 1, 0, none⟩)]) rfl trivial (enters_of Tryd.func66 (by kernel_rfl) rfl)
    (labels_stops (9 - 1) (w.heap.size + 1 + 1 + 1 + 1 + 1 + 1) (allS n) n hal6 hal W0 b6) keepB_t keepB_b (Below.refl _ _) (fun _ => rfl)
    (fun pre W => ((((((Boxed W (w.heap.size + 1 + 1 + 1 + 1) 2 (.int .i64 (csSt n f s (nums pre)).2.1) ∧ Boxed W (w.heap.size + 1 + 1 + 1 + 1 + 1) 59 (.int .i64 (csSt n f s (nums pre)).2.2)) ∧ RowI W 2 (w.heap.size + 1 + 1) n (csSt n f s (nums pre)).1) ∧ Boxed W (w.heap.size) 43 (.slice (some ⟨b, off, none⟩) n c)) ∧ Boxed W (w.heap.size + 1) 59 (.int .i64 s)) ∧ Boxed W (w.heap.size + 1 + 1 + 1) 38 (.slice (some ⟨w.heap.size + 1 + 1, 0, none⟩) n n)) ∧ Boxed W (w.heap.size + 1 + 1 + 1 + 1 + 1 + 1) 59 (.int .i64 (allS n : Nat))) ∧ Below w.heap.size w W)
    (fun _ _ _ => False)
    (OwnFrom.and (OwnFrom.and (OwnFrom.and (OwnFrom.and (OwnFrom.and (OwnFrom.and (OwnFrom.and (Own.from (boxed_own _ _ _) _) (Own.from (boxed_own _ _ _) _)) (Own.from (rowI_own _ _ _ _) _)) (Own.from (boxed_own _ _ _) _)) (Own.from (boxed_own _ _ _) _)) (Own.from (boxed_own _ _ _) _)) (Own.from (boxed_own _ _ _) _)) (ownFrom_below (Nat.le_refl _) (by omega)))
    (fun _ _ _ _ _ hs _ _ => hs)
    ⟨⟨⟨⟨⟨⟨⟨b4, b5⟩, r2⟩, b0⟩, b1⟩, b3⟩, b6⟩, hB0⟩
    (fun x a' _ => a' = { tmps := #[.slice (some ⟨b, off, none⟩) n c, .int .i64 s, .pointer (some ⟨w.heap.size, 0, none⟩), .pointer (some ⟨w.heap.size + 1, 0, none⟩), .slice none 0 0, .pointer (some ⟨w.heap.size + 1 + 1 + 1, 0, none⟩), .pointer (some ⟨w.heap.size + 1 + 1 + 1 + 1, 0, none⟩), .pointer (some ⟨w.heap.size + 1 + 1 + 1 + 1 + 1, 0, none⟩), .int .i64 (x.val : Nat), undef, undef, .slice (some ⟨b, off, none⟩) n c, .int .i64 n, .slice (some ⟨w.heap.size + 1 + 1, 0, none⟩) n n, .slice (some ⟨b, off, none⟩) n c, .int .i64 (allS n : Nat), .func (.func 66) #[] #[.pointer (some ⟨w.heap.size + 1 + 1 + 1 + 1 + 1 + 1, 0, none⟩)], .int .i64 (x.val : Nat), undef, undef, undef, undef, undef, undef, undef, undef, undef, undef, undef, undef, undef, undef, undef, undef, undef, undef, undef, undef, undef], defers := [] })
    (fun _ _ _ _ _ _ hs _ _ => hs)
    ?assign ?body ?done ?stop
  case assign =>
    rintro l pre x W K hi hK
    gi_wp2
    exact hK _ _ (KeepsFrom.refl _ _) (fun q => q) hi rfl
  case body =>
    rintro l pre x a' W hl ⟨r, hr⟩ ⟨⟨⟨⟨⟨⟨⟨cC, cD⟩, cR⟩, cO⟩, cS⟩, cN⟩, cA⟩, hB1⟩ rfl hlt
    have hxl := x.isLt
    obtain ⟨hcn, hdn⟩ := csSt_bd n f s (nums pre)
    have hcn2 : (csSt n f s (nums pre)).2.1 ≤ 16 := Nat.le_trans hcn (by simp [nums]; omega)
    have HYes := Lib.hid (fun h => csSt_yes (n := n) (f := f) (s := s) (l := nums pre) (i := x.val) h)
    have HNo := Lib.hid (fun h => csSt_no (n := n) (f := f) (s := s) (l := nums pre) (i := x.val) h)
    obtain ⟨st, hst⟩ : ∃ st, st = csSt n f s (nums pre) := ⟨_, rfl⟩
    rw [← hst] at cC cD cR hdn hcn2 HYes HNo
    clear hst hcn
    obtain ⟨N, cnt, dn⟩ := st
    dsimp only at cC cD cR hdn hcn2 HYes HNo
    have hdn6 : dn < 65536 := Nat.lt_of_lt_of_le hdn hp
    have cD1 := cD.cell
    cases hbit : dn.testBit x.val
    · have HNo2 := Lib.hid (HNo.out hbit)
      have hpx : 2 ^ x.val < 2 ^ n := Nat.pow_lt_pow_right (by omega) hxl
      have hsh := pow_i64 (show x.val ≤ 40 by omega)
      have HCo := Lib.hid (show prl (occ n f) (lbl (2 ^ x.val)) (lbl s) = cosI n f s x.val from rfl)
      obtain ⟨p, hp2⟩ : ∃ p, p = 2 ^ x.val := ⟨_, rfl⟩
      rw [← hp2] at hpx hsh HCo
      have hp3 := hp2
      have HSH3 := Lib.hid (show ((2 : Int) ^ x.val) = (p : Int) by rw [hp2, Int.natCast_pow]; rfl)
      clear hp2
      have hsh2 : IntKind.i64.wrap ((2 : Int) ^ x.val) = (p : Int) := by rw [hp3]; exact pow_i64w (show x.val ≤ 40 by omega)
      have hco : cosI n f s x.val < 2 ^ n := cosI_lt
      obtain ⟨co, hcoe⟩ : ∃ co, co = cosI n f s x.val := ⟨_, rfl⟩
      rw [← hcoe] at hco HCo HNo2
      clear hcoe
      have hco6 : co < 65536 := Nat.lt_of_lt_of_le hco hp
      have cO1 := cO.cell
      have cS1 := cS.cell
      have hAl := cA.lt
      gi_wp2_with (refine ⟨trivial, ?_⟩; gi_at_call 60; refine (CallsIn.inRound l (callsIn_wide.2 (has_f dn x.val hdn6 (by omega) _))).mono ?_; rintro e w1 ⟨rfl, rfl⟩; rw [hbit])
      refine region_round hmx (by kernel_rfl) ?_
      refine wpAny_still_tail 0 4 (by kernel_rfl) (by kernel_rfl) ?_
      simp only [List.take_succ_cons, List.take_zero, List.drop_succ_cons, List.drop_zero]
      repeat still_step
      refine wpStill_nil ?_
      try rw [hsh2]
      change wpList _ _ _ _ _ W.drew
      go_wp2_with (go_at_call 61; rw [HSH3.out]; refine (product_f b off n c B O C (occ n f) p s W.drew (HO.out.below hB1.drew (Nat.le_refl _)) h16 hpx hs (fun i j _ _ => Nat.lt_of_lt_of_le (occ_lt n f i j) hp)).mono ?_; rintro e w3 ⟨rfl, hb3⟩; rw [HCo.out])
      refine ⟨rfl, ?_⟩
      have HB3 := Lib.hid (show Below W.heap.size W w3 from ⟨hb3.os, hb3.tape, hb3.output, hb3.size, hb3.block⟩)
      clear hb3 cO1 cS1 cD1 hsh hsh2 hp3
      gi_wp2_with (refine ⟨trivial, ?_⟩; gi_at_call 59; refine (CallsIn.inRound l (callsIn_wide.2 (labels_f co _))).mono ?_; rintro e w' ⟨rfl, rfl⟩)
      have hsz3 := HB3.out.size
      have hr3 := (HB3.out.block l (Array.getElem?_eq_some_iff.1 hr).1).trans hr
      have hr' : (w3.alloc (.cells #[.int .i64 co] 59)).heap[l]? = some (.loop r) := (Below.heap_alloc w3 _ l (Array.getElem?_eq_some_iff.1 hr3).1).trans hr3
      have bN := Boxed.new w3 59 (.int .i64 co)
      have q0 := hB1.size
      have cC3 := (boxed_below cC HB3.out cC.lt).alloc (.cells #[.int .i64 co] 59)
      have cD3 := (boxed_below cD HB3.out cD.lt).alloc (.cells #[.int .i64 co] 59)
      have cO3 := (boxed_below cO HB3.out cO.lt).alloc (.cells #[.int .i64 co] 59)
      have cS3 := (boxed_below cS HB3.out cS.lt).alloc (.cells #[.int .i64 co] 59)
      have cN3 := (boxed_below cN HB3.out cN.lt).alloc (.cells #[.int .i64 co] 59)
      have cA3 := (boxed_below cA HB3.out cA.lt).alloc (.cells #[.int .i64 co] 59)
      have cR3 : RowI (w3.alloc (.cells #[.int .i64 co] 59)) 2 (w.heap.size + 1 + 1) n N := RowB.alloc (RowI.below cR HB3.out (RowB.lt cR)) _
      have hB3 : Below w.heap.size W (w3.alloc (.cells #[.int .i64 co] 59)) := (HB3.out.mono q0).alloc (by omega) _
      have hK3 : KeepsFrom W0.heap.size W (w3.alloc (.cells #[.int .i64 co] 59)) := (keepsFrom_below HB3.out).trans ((KeepsOthers.alloc _ _).from _)
      refine wpIn_rangeFunc_ownN (α := Fin n) (l₀ := l) (r₀ := r) rfl hr' (by omega) (gf := 66) (lb := #[.pointer (some ⟨w3.heap.size, 0, none⟩)]) rfl trivial (enters_of Tryd.func66 (by kernel_rfl) rfl)
        ((labels_stops (9 - 1 - 1 - 1) w3.heap.size co n hco6 hco _ bN).inRound l) keepB_t keepB_b (Below.refl _ _) (fun _ => rfl)
        (fun pre' W' => (((((((Boxed W' (w.heap.size + 1 + 1 + 1 + 1) 2 (.int .i64 (cnt : Nat)) ∧ Boxed W' (w.heap.size + 1 + 1 + 1 + 1 + 1) 59 (.int .i64 (dn : Nat))) ∧ RowI W' 2 (w.heap.size + 1 + 1) n (fun q => if q ∈ nums pre' then (cnt : Int) else N q)) ∧ Boxed W' (w.heap.size) 43 (.slice (some ⟨b, off, none⟩) n c)) ∧ Boxed W' (w.heap.size + 1) 59 (.int .i64 s)) ∧ Boxed W' (w.heap.size + 1 + 1 + 1) 38 (.slice (some ⟨w.heap.size + 1 + 1, 0, none⟩) n n)) ∧ Boxed W' (w.heap.size + 1 + 1 + 1 + 1 + 1 + 1) 59 (.int .i64 (allS n : Nat))) ∧ Boxed W' w3.heap.size 59 (.int .i64 co)) ∧ (Below w.heap.size W W' ∧ KeepsFrom W0.heap.size W W'))
        (fun _ _ _ => False)
        (OwnFrom.and (OwnFrom.and (OwnFrom.and (OwnFrom.and (OwnFrom.and (OwnFrom.and (OwnFrom.and (OwnFrom.and (Own.from (boxed_own _ _ _) _) (Own.from (boxed_own _ _ _) _)) (Own.from (rowI_own _ _ _ _) _)) (Own.from (boxed_own _ _ _) _)) (Own.from (boxed_own _ _ _) _)) (Own.from (boxed_own _ _ _) _)) (Own.from (boxed_own _ _ _) _)) (Own.from (boxed_own _ _ _) _)) (OwnFrom.and (ownFrom_below q0 (by simp; omega)) (ownFrom_keepsFrom (by simp; omega))))
        (fun _ _ _ _ _ hs _ _ => hs)
        ⟨⟨⟨⟨⟨⟨⟨⟨cC3, cD3⟩, by simpa [nums] using cR3⟩, cO3⟩, cS3⟩, cN3⟩, cA3⟩, bN⟩, hB3, hK3⟩
        (fun y a'' _ => a'' = { tmps := #[.slice (some ⟨b, off, none⟩) n c, .int .i64 s, .pointer (some ⟨w.heap.size, 0, none⟩), .pointer (some ⟨w.heap.size + 1, 0, none⟩), .slice none 0 0, .pointer (some ⟨w.heap.size + 1 + 1 + 1, 0, none⟩), .pointer (some ⟨w.heap.size + 1 + 1 + 1 + 1, 0, none⟩), .pointer (some ⟨w.heap.size + 1 + 1 + 1 + 1 + 1, 0, none⟩), .int .i64 (x.val : Nat), .int .i64 co, .int .i64 (y.val : Nat), .slice (some ⟨b, off, none⟩) n c, .int .i64 n, .slice (some ⟨w.heap.size + 1 + 1, 0, none⟩) n n, .slice (some ⟨b, off, none⟩) n c, .int .i64 (allS n : Nat), .func (.func 66) #[] #[.pointer (some ⟨w.heap.size + 1 + 1 + 1 + 1 + 1 + 1, 0, none⟩)], .int .i64 (x.val : Nat), .int .i64 dn, .int .i64 (x.val : Nat), .bool false, .slice (some ⟨b, off, none⟩) n c, .int .i64 (x.val : Nat), .int .i64 ((2 : Int) ^ x.val), .int .i64 s, .int .i64 co, .int .i64 co, .func (.func 66) #[] #[.pointer (some ⟨w3.heap.size, 0, none⟩)], .int .i64 (y.val : Nat), undef, undef, undef, undef, undef, undef, undef, undef, undef, undef], defers := [] })
        (fun _ _ _ _ _ _ hs _ _ => hs)
        ?assign2 ?body2 ?done2 ?stop2
      case assign2 =>
        rintro l2 pre' y W' K hi hK
        gi_wp2
        exact hK _ _ (KeepsFrom.refl _ _) (fun q => q) hi rfl
      case body2 =>
        rintro l2 pre' y a'' W' _ _ ⟨⟨⟨⟨⟨⟨⟨⟨cC2, cD2⟩, cR2⟩, cO2⟩, cS2⟩, cN2⟩, cA2⟩, bN2⟩, hBW, hKF⟩ rfl _
        have hyl := y.isLt
        have cN1 := cN2.cell
        have cC1 := cC2.cell
        obtain ⟨v0, hv0⟩ : ∃ v, W'.cell? ⟨w.heap.size + 1 + 1, y.val, none⟩ = some (.int .i64 v) := ⟨_, RowB.cell cR2 hyl⟩
        have hf0 : W'.frozen? ⟨w.heap.size + 1 + 1, y.val, none⟩ = false := RowB.frozen cR2 y.val
        gi_wp2
        refine ⟨(KeepsOthers.setCell _ _ _).from _, fun q => boxed_far q (by show _ ≠ w.heap.size + 1 + 1; omega) _, ⟨⟨⟨⟨⟨⟨⟨boxed_far cC2 (by show _ ≠ w.heap.size + 1 + 1; omega) _, boxed_far cD2 (by show _ ≠ w.heap.size + 1 + 1; omega) _⟩, ?_⟩, boxed_far cO2 (by show _ ≠ w.heap.size + 1 + 1; omega) _⟩, boxed_far cS2 (by show _ ≠ w.heap.size + 1 + 1; omega) _⟩, boxed_far cN2 (by show _ ≠ w.heap.size + 1 + 1; omega) _⟩, boxed_far cA2 (by show _ ≠ w.heap.size + 1 + 1; omega) _⟩, boxed_far bN2 (by show _ ≠ w.heap.size + 1 + 1; omega) _⟩, hBW.setCell (p := ⟨w.heap.size + 1 + 1, y.val, none⟩) (by simp; omega) _, by first | exact hKF.trans ((KeepsOthers.setCell _ _ _).from _) | (rw [← hsz]; exact hKF.trans ((KeepsOthers.setCell _ _ _).from _))⟩
        refine (RowI.set cR2 y.val cnt).congr fun j hj => ?_
        rw [nums_snoc]
        by_cases e : j = y.val
        · rw [if_pos e, if_pos (by rw [e]; simp)]
        · rw [if_neg e]
          by_cases e2 : j ∈ nums pre'
          · rw [if_pos e2, if_pos (List.mem_append.2 (.inl e2))]
          · rw [if_neg e2, if_neg (fun h => (List.mem_append.1 h).elim e2 (fun h => e (by simpa using h)))]
      case done2 =>
        rintro ys' W' hz ⟨⟨⟨⟨⟨⟨⟨⟨cC2, cD2⟩, cR2⟩, cO2⟩, cS2⟩, cN2⟩, cA2⟩, bN2⟩, hBW, hKF⟩
        have cC1 := cC2.cell
        have fC1 := cC2.frozen
        have cD1 := cD2.cell
        have fD1 := cD2.frozen
        have hor := or_i64 (a := dn) (b := co) (Nat.lt_trans hdn6 (by decide)) (Nat.lt_trans hco6 (by decide))
        have hw1 : IntKind.i64.wrap ((cnt : Int) + 1) = ((cnt + 1 : Nat) : Int) := by
          rw [show ((cnt : Int) + 1) = ((cnt + 1 : Nat) : Int) by omega]; exact IntWalk.i64_in _ (by omega)
        rw [hz] at cR2
        gi_wp2
        have e9 : ((cnt : Int) + 1) = ((cnt + 1 : Nat) : Int) := by omega
        rw [e9]
        have hK9 : KeepsFrom W0.heap.size W ((W'.setCell ⟨w.heap.size + 1 + 1 + 1 + 1, 0, none⟩ (.int .i64 ((cnt + 1 : Nat) : Int))).setCell ⟨w.heap.size + 1 + 1 + 1 + 1 + 1, 0, none⟩ (.int .i64 ((dn ||| co : Nat) : Int))) := hKF.trans (((KeepsOthers.setCell _ _ _).trans (KeepsOthers.setCell _ _ _)).from _)
        have two : ∀ {B : Nat} {t : TypeId} {v : Value}, Boxed W' B t v → B ≠ w.heap.size + 1 + 1 + 1 + 1 → B ≠ w.heap.size + 1 + 1 + 1 + 1 + 1 → Boxed ((W'.setCell ⟨w.heap.size + 1 + 1 + 1 + 1, 0, none⟩ (.int .i64 ((cnt + 1 : Nat) : Int))).setCell ⟨w.heap.size + 1 + 1 + 1 + 1 + 1, 0, none⟩ (.int .i64 ((dn ||| co : Nat) : Int))) B t v := fun h n1 n2 => boxed_far (boxed_far h n1 _) n2 _
        have hB9 := (hBW.setCell (p := ⟨w.heap.size + 1 + 1 + 1 + 1, 0, none⟩) (by simp; omega) (.int .i64 ((cnt + 1 : Nat) : Int))).setCell (p := ⟨w.heap.size + 1 + 1 + 1 + 1 + 1, 0, none⟩) (by simp; omega) (.int .i64 ((dn ||| co : Nat) : Int))
        refine ⟨by first | exact hK9 | (rw [← hsz]; exact hK9), fun _ => two cA2 (by omega) (by omega), ?_⟩
        dsimp only
        rw [nums_snoc, HNo2.out]
        dsimp only
        refine ⟨⟨⟨⟨⟨⟨⟨boxed_far (cC2.set _) (by show _ ≠ w.heap.size + 1 + 1 + 1 + 1 + 1; omega) _, (boxed_far cD2 (by show _ ≠ w.heap.size + 1 + 1 + 1 + 1; omega) _).set _⟩, ?_⟩, two cO2 (by omega) (by omega)⟩, two cS2 (by omega) (by omega)⟩, two cN2 (by omega) (by omega)⟩, two cA2 (by omega) (by omega)⟩, hB1.trans hB9⟩
        exact RowB.setOther (RowB.setOther cR2 (by show w.heap.size + 1 + 1 ≠ w.heap.size + 1 + 1 + 1 + 1; omega) _) (by show w.heap.size + 1 + 1 ≠ w.heap.size + 1 + 1 + 1 + 1 + 1; omega) _
      case stop2 =>
        rintro c pre' W' _ h
        exact h.elim
    · have HY := Lib.hid (HYes.out hbit)
      gi_wp2_with (refine ⟨trivial, ?_⟩; gi_at_call 60; refine (CallsIn.inRound l (callsIn_wide.2 (has_f dn x.val hdn6 (by omega) _))).mono ?_; rintro e w1 ⟨rfl, rfl⟩; rw [hbit])
      refine ⟨KeepsFrom.refl _ _, fun q => q, ?_⟩
      dsimp only
      rw [nums_snoc, HY.out]
      exact ⟨⟨⟨⟨⟨⟨⟨cC, cD⟩, cR⟩, cO⟩, cS⟩, cN⟩, cA⟩, hB1⟩
  case done =>
    rintro D zs W hD hz ⟨⟨⟨⟨⟨⟨⟨cC, cD⟩, cR⟩, cO⟩, cS⟩, cN⟩, cA⟩, hB1⟩ hK
    have cN1 := cN.cell
    have hne : w.heap.size + 1 + 1 ≠ D := by omega
    have HR := Lib.hid (show RowI W 2 (w.heap.size + 1 + 1) n (csN n f s) by unfold csN; rw [← hz]; exact cR)
    gi_wp2
    refine ⟨by simp, .inl ⟨_, _, rfl, run_takeDeferred hK, ?_⟩⟩
    refine ⟨_, results_tmp rfl _ _ _, w.heap.size + 1 + 1, rfl, by omega, RowB.of_block HR.out (World.putObj_heap_other hne), hB1.trans (belowK_b (w := w) (Nat.le_refl _) W D _ _ (by omega) hK rfl rfl)⟩
  case stop =>
    rintro D c pre W _ _ h _
    exact h.elim
end Go.Proofs.YtpfodikmidgpmaaDoor
