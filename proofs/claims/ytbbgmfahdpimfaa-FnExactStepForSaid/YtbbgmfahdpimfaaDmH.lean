/- Steps: whether bounds are near: of both. -/
import Derived.Test.YtbbgmfahdpimfaaDmG
namespace Go.Proofs.Ytbbgmfahdpimfaa
open Go.RowKit
set_option linter.unusedSimpArgs false
theorem wt_ge {n : Nat} {f : Nat → Nat → Nat → Int} (R : Rng n f) (t : Nat) : ∀ k, k < n → 1 ≤ wtZ n f t k := by
  induction t with
  | zero => intro k _; simp [wtZ]
  | succ t ih =>
    intro j hj
    show 1 ≤ nxZ n f (wtZ n f t) j
    rw [nx_len]
    have h1 := sumZ_term (g := fun k => lenZ n f j k * wtZ n f t k) (n := n) (i := 0) (fun k hk => Int.mul_nonneg (by have := len_pos R hj hk; omega) (by have := ih k hk; omega)) R.h0
    have h2 : 1 * 1 ≤ lenZ n f j 0 * wtZ n f t 0 := Int.mul_le_mul (len_pos R hj R.h0) (ih 0 R.h0) (by omega) (by have := len_pos R hj R.h0; omega)
    have h3 : (fun k => lenZ n f j k * wtZ n f t k) 0 = lenZ n f j 0 * wtZ n f t 0 := rfl
    omega
theorem fm_low {n : Nat} {T V : Nat → Int} (h0 : 0 < n) (hV : ∀ k, k < n → 1 ≤ V k) (j : Nat) (hj : j ≤ n) : (fmF lessB T V j).1 * V 0 ≤ T 0 * (fmF lessB T V j).2 ∧ 1 ≤ (fmF lessB T V j).2 := by
  induction j with
  | zero => exact ⟨Int.le_refl _, hV 0 h0⟩
  | succ j ih =>
    obtain ⟨i1, i2⟩ := ih (by omega)
    simp only [fmF]
    split
    · rename_i hc
      have hc' : T j * (fmF lessB T V j).2 < (fmF lessB T V j).1 * V j := of_decide_eq_true hc
      have hVj := hV j (by omega)
      refine ⟨?_, hVj⟩
      show T j * V 0 ≤ T 0 * V j
      have hV0 := hV 0 h0
      have k1 : V 0 * (T j * (fmF lessB T V j).2) ≤ V 0 * ((fmF lessB T V j).1 * V j) := Int.mul_le_mul_of_nonneg_left (by omega) (by omega)
      have k2 : V j * ((fmF lessB T V j).1 * V 0) ≤ V j * (T 0 * (fmF lessB T V j).2) := Int.mul_le_mul_of_nonneg_left i1 (by omega)
      generalize (fmF lessB T V j).1 = l1 at *
      generalize (fmF lessB T V j).2 = l2 at *
      have e1 : V 0 * (T j * l2) = l2 * (T j * V 0) := by grind
      have e2 : V 0 * (l1 * V j) = V j * (l1 * V 0) := by grind
      have e3 : V j * (T 0 * l2) = l2 * (T 0 * V j) := by grind
      exact Int.le_of_mul_le_mul_left (show l2 * (T j * V 0) ≤ l2 * (T 0 * V j) by omega) (by omega)
    · exact ⟨i1, i2⟩
theorem fm_high {n : Nat} {T V : Nat → Int} (h0 : 0 < n) (hV : ∀ k, k < n → 1 ≤ V k) (j : Nat) (hj : j ≤ n) : T 0 * (fmF greaterB T V j).2 ≤ (fmF greaterB T V j).1 * V 0 ∧ 1 ≤ (fmF greaterB T V j).2 := by
  induction j with
  | zero => exact ⟨Int.le_refl _, hV 0 h0⟩
  | succ j ih =>
    obtain ⟨i1, i2⟩ := ih (by omega)
    simp only [fmF]
    split
    · rename_i hc
      have hc' : (fmF greaterB T V j).1 * V j < T j * (fmF greaterB T V j).2 := of_decide_eq_true hc
      have hVj := hV j (by omega)
      refine ⟨?_, hVj⟩
      show T 0 * V j ≤ T j * V 0
      have hV0 := hV 0 h0
      have k1 : V 0 * ((fmF greaterB T V j).1 * V j) ≤ V 0 * (T j * (fmF greaterB T V j).2) := Int.mul_le_mul_of_nonneg_left (by omega) (by omega)
      have k2 : V j * (T 0 * (fmF greaterB T V j).2) ≤ V j * ((fmF greaterB T V j).1 * V 0) := Int.mul_le_mul_of_nonneg_left i1 (by omega)
      generalize (fmF greaterB T V j).1 = l1 at *
      generalize (fmF greaterB T V j).2 = l2 at *
      have e1 : V 0 * (T j * l2) = l2 * (T j * V 0) := by grind
      have e2 : V 0 * (l1 * V j) = V j * (l1 * V 0) := by grind
      have e3 : V j * (T 0 * l2) = l2 * (T 0 * V j) := by grind
      exact Int.le_of_mul_le_mul_left (show l2 * (T 0 * V j) ≤ l2 * (T j * V 0) by omega) (by omega)
    · exact ⟨i1, i2⟩
theorem fm_order {n : Nat} {T V : Nat → Int} (h0 : 0 < n) (hV : ∀ k, k < n → 1 ≤ V k) : (fmF lessB T V n).1 * (fmF greaterB T V n).2 ≤ (fmF greaterB T V n).1 * (fmF lessB T V n).2 := by
  obtain ⟨a1, a2⟩ := fm_low (T := T) h0 hV n (Nat.le_refl _)
  obtain ⟨b1, b2⟩ := fm_high (T := T) h0 hV n (Nat.le_refl _)
  have hV0 := hV 0 h0
  generalize (fmF lessB T V n).1 = l1 at *
  generalize (fmF lessB T V n).2 = l2 at *
  generalize (fmF greaterB T V n).1 = g1 at *
  generalize (fmF greaterB T V n).2 = g2 at *
  have k1 : g2 * (l1 * V 0) ≤ g2 * (T 0 * l2) := Int.mul_le_mul_of_nonneg_left a1 (by omega)
  have k2 : l2 * (T 0 * g2) ≤ l2 * (g1 * V 0) := Int.mul_le_mul_of_nonneg_left b1 (by omega)
  have e1 : g2 * (l1 * V 0) = V 0 * (l1 * g2) := by grind
  have e2 : g2 * (T 0 * l2) = l2 * (T 0 * g2) := by grind
  have e3 : l2 * (g1 * V 0) = V 0 * (g1 * l2) := by grind
  exact Int.le_of_mul_le_mul_left (show V 0 * (l1 * g2) ≤ V 0 * (g1 * l2) by omega) (by omega)
/-- the difference of two fractions is at most a third -/
def nearB (lt lb ht hb tp bt : Int) : Bool := decide ((ht * lb - lt * hb) * bt ≤ tp * (lb * hb))
theorem areWithin_f (lt lb ht hb tp bt : Int) (w : World) (h1 : 0 ≤ lt ∧ lt ≤ 100000000000) (h2 : 1 ≤ lb ∧ lb ≤ 1000000) (h3 : 0 ≤ ht ∧ ht ≤ 100000000000) (h4 : 1 ≤ hb ∧ hb ≤ 1000000) (h5 : 0 ≤ tp ∧ tp ≤ 1000) (h6 : 1 ≤ bt ∧ bt ≤ 1000) :
    Calls Try.prog 57 #[.agg #[.int .i64 lt, .int .i64 lb, .int .i64 ht, .int .i64 hb], .agg #[.int .i64 tp, .int .i64 bt]] w fun e w' => e = .returned (.bool (nearB lt lb ht hb tp bt)) ∧ Below w.heap.size w w' := by
  have m : ∀ x y A B : Int, 0 ≤ x ∧ x ≤ A → 0 ≤ y ∧ y ≤ B → 0 ≤ x * y ∧ x * y ≤ A * B := fun x y A B hx hy => ⟨Int.mul_nonneg hx.1 hy.1, Int.mul_le_mul hx.2 hy.2 hy.1 (by omega)⟩
  have q1 := m lb hb 1000000 1000000 (by omega) (by omega)
  have q2 := m ht lb 100000000000 1000000 (by omega) (by omega)
  have q3 := m lt hb 100000000000 1000000 (by omega) (by omega)
  have q4 := m tp (lb * hb) 1000 (1000000 * 1000000) (by omega) q1
  have f1 : IntKind.i64.wrap (lb * hb) = lb * hb := IntWalk.i64_in _ (by omega)
  have f2 : IntKind.i64.wrap (ht * lb) = ht * lb := IntWalk.i64_in _ (by omega)
  have f3 : IntKind.i64.wrap (lt * hb) = lt * hb := IntWalk.i64_in _ (by omega)
  have f4 : IntKind.i64.wrap (ht * lb - lt * hb) = ht * lb - lt * hb := IntWalk.i64_in _ (by omega)
  have f5 : IntKind.i64.wrap (tp * (lb * hb)) = tp * (lb * hb) := IntWalk.i64_in _ (by omega)
  have e1 : (tp * (lb * hb)).tdiv bt = tp * (lb * hb) / bt := Int.tdiv_eq_ediv_of_nonneg q4.1
  have q5 : 0 ≤ tp * (lb * hb) / bt := Int.ediv_nonneg q4.1 (by omega)
  have q6 : tp * (lb * hb) / bt ≤ tp * (lb * hb) := Int.ediv_le_self _ q4.1
  have f6 : IntKind.i64.wrap (tp * (lb * hb) / bt) = tp * (lb * hb) / bt := IntWalk.i64_in _ (by omega)
  have hz : (bt == 0) = false := by simp; omega
  have hz2 : ¬ bt = 0 := by omega
  have HD := Lib.hid (show decide (ht * lb - lt * hb ≤ tp * (lb * hb) / bt) = nearB lt lb ht hb tp bt by
    unfold nearB
    rw [decide_eq_decide]
    exact Int.le_ediv_iff_mul_le (by omega))
  clear m q1 q2 q3 q4 q5 q6 h1 h2 h3 h4 h5 h6
  go_enter Try.func57, Try.ntmps57
  go_wp2_with fail
  go_ret
  exact ⟨by rw [← HD.out]; rfl, (below_alloc w _).trans ((below_alloc _ _).mono (by simp))⟩
/-- what the specification reckons is whether the difference is at most the fraction -/
theorem near_big {lt lb ht hb tp bt : Int} (h2 : 1 ≤ lb) (h4 : 1 ≤ hb) (h6 : 1 ≤ bt) (hw : tp / bt + 1 < ht / hb - lt / lb) : nearB lt lb ht hb tp bt = false := by
  refine decide_eq_false fun hc => ?_
  have a1 : hb * (ht / hb) ≤ ht := by have := Int.mul_ediv_add_emod ht hb; have := Int.emod_nonneg ht (show hb ≠ 0 by omega); omega
  have a2 : lt < lb * (lt / lb + 1) := by have := Int.mul_ediv_add_emod lt lb; have := Int.emod_lt_of_pos lt (show 0 < lb by omega); rw [Int.mul_add]; omega
  have a3 : tp < bt * (tp / bt + 1) := by have := Int.mul_ediv_add_emod tp bt; have := Int.emod_lt_of_pos tp (show 0 < bt by omega); rw [Int.mul_add]; omega
  generalize ht / hb = x at *
  generalize lt / lb = y at *
  generalize tp / bt = q at *
  have b1 : lb * (hb * x) ≤ lb * ht := Int.mul_le_mul_of_nonneg_left a1 (by omega)
  have b2 : hb * lt ≤ hb * (lb * (y + 1)) := Int.mul_le_mul_of_nonneg_left (by omega) (by omega)
  have hP : 0 < lb * hb := Int.mul_pos (by omega) (by omega)
  have b3 : lb * hb * (q + 1) ≤ lb * hb * (x - y - 1) := Int.mul_le_mul_of_nonneg_left (by omega) (by omega)
  have c1 : lb * hb * (q + 1) ≤ ht * lb - lt * hb := by
    have e1 : lb * hb * (x - y - 1) = lb * (hb * x) - hb * (lb * (y + 1)) := by grind
    have e2 : lb * ht = ht * lb := Int.mul_comm _ _
    have e3 : hb * lt = lt * hb := Int.mul_comm _ _
    omega
  have c2 : lb * hb * (q + 1) * bt ≤ (ht * lb - lt * hb) * bt := Int.mul_le_mul_of_nonneg_right c1 (by omega)
  have c3 : lb * hb * tp < lb * hb * (bt * (q + 1)) := Int.mul_lt_mul_of_pos_left a3 hP
  have e1 : lb * hb * (q + 1) * bt = lb * hb * (bt * (q + 1)) := by grind
  have e2 : lb * hb * tp = tp * (lb * hb) := Int.mul_comm _ _
  omega
theorem near_left (lt lb ht hb : Int) : ht % hb * lb + (ht / hb - lt / lb) * hb * lb - lt % lb * hb = ht * lb - lt * hb := by
  have a1 := Int.mul_ediv_add_emod ht hb
  have a2 := Int.mul_ediv_add_emod lt lb
  generalize ht / hb = x at *
  generalize lt / lb = y at *
  generalize ht % hb = r at *
  generalize lt % lb = s at *
  subst a1
  subst a2
  grind
theorem near_end {lt lb ht hb tp bt : Int} (h2 : 1 ≤ lb) (h4 : 1 ≤ hb) (h6 : 1 ≤ bt) : nearB lt lb ht hb tp bt =
    if (ht * lb - lt * hb) / (hb * lb) = tp / bt then decide ((ht * lb - lt * hb) % (hb * lb) * bt ≤ tp % bt * hb * lb) else decide ((ht * lb - lt * hb) / (hb * lb) < tp / bt) := by
  have hP : 0 < hb * lb := Int.mul_pos (by omega) (by omega)
  have e0 : lb * hb = hb * lb := Int.mul_comm _ _
  unfold nearB
  rw [e0]
  generalize ht * lb - lt * hb = D at *
  have a1 := Int.mul_ediv_add_emod D (hb * lb)
  have a2 := Int.mul_ediv_add_emod tp bt
  have a3 := Int.emod_nonneg D (show hb * lb ≠ 0 by omega)
  have a4 := Int.emod_lt_of_pos D hP
  have a5 := Int.emod_nonneg tp (show bt ≠ 0 by omega)
  have a6 := Int.emod_lt_of_pos tp (show 0 < bt by omega)
  have e1 : tp % bt * hb * lb = tp % bt * (hb * lb) := by grind
  rw [e1]
  generalize hb * lb = P at *
  generalize D / P = x at *
  generalize D % P = r at *
  generalize tp / bt = q at *
  generalize tp % bt = s at *
  split
  · rename_i hx
    subst hx
    rw [decide_eq_decide, ← a1, ← a2]
    have e2 : (P * x + r) * bt = P * x * bt + r * bt := by grind
    have e3 : (bt * x + s) * P = P * x * bt + s * P := by grind
    rw [e2, e3]
    omega
  · rename_i hx
    rw [decide_eq_decide, ← a1, ← a2]
    have e2 : (P * x + r) * bt = P * bt * x + r * bt := by grind
    have e3 : (bt * q + s) * P = P * bt * q + s * P := by grind
    have k1 : 0 ≤ r * bt := Int.mul_nonneg a3 (by omega)
    have k2 : r * bt < P * bt := Int.mul_lt_mul_of_pos_right a4 (by omega)
    have k3 : 0 ≤ s * P := Int.mul_nonneg a5 (by omega)
    have k4 : s * P < P * bt := by rw [Int.mul_comm P]; exact Int.mul_lt_mul_of_pos_right a6 hP
    have hPb : 0 < P * bt := Int.mul_pos hP (by omega)
    rw [e2, e3]
    constructor
    · intro h
      refine Int.not_le.1 fun hq => ?_
      have : P * bt * (q + 1) ≤ P * bt * x := Int.mul_le_mul_of_nonneg_left (by omega) (by omega)
      rw [Int.mul_add] at this
      omega
    · intro h
      have : P * bt * (x + 1) ≤ P * bt * q := Int.mul_le_mul_of_nonneg_left (by omega) (by omega)
      rw [Int.mul_add] at this
      omega
set_option maxHeartbeats 8000000 in
set_option maxRecDepth 100000 in
theorem l04Near_f (lt lb ht hb tp bt : Int) (w : World) (h1 : 0 ≤ lt ∧ lt ≤ 100000000000) (h2 : 1 ≤ lb ∧ lb ≤ 1000000) (h3 : 0 ≤ ht ∧ ht ≤ 100000000000) (h4 : 1 ≤ hb ∧ hb ≤ 1000000) (h5 : 0 ≤ tp ∧ tp ≤ 1000) (h6 : 1 ≤ bt ∧ bt ≤ 1000) (hor : lt * hb ≤ ht * lb) :
    Calls Try.prog 56 #[.agg #[.int .i64 lt, .int .i64 lb, .int .i64 ht, .int .i64 hb], .int .i64 tp, .int .i64 bt] w fun e w' => e = .returned (.bool (nearB lt lb ht hb tp bt)) ∧ Below w.heap.size w w' := by
  have m : ∀ x y A B : Int, 0 ≤ x ∧ x ≤ A → 0 ≤ y ∧ y ≤ B → 0 ≤ x * y ∧ x * y ≤ A * B := fun x y A B hx hy => ⟨Int.mul_nonneg hx.1 hy.1, Int.mul_le_mul hx.2 hy.2 hy.1 (by omega)⟩
  have z1 : ¬ hb = 0 := by omega
  have z2 : ¬ lb = 0 := by omega
  have z3 : ¬ bt = 0 := by omega
  have z1' : (hb == 0) = false := by simp; omega
  have z2' : (lb == 0) = false := by simp; omega
  have z3' : (bt == 0) = false := by simp; omega
  have t1 : ht.tdiv hb = ht / hb := Int.tdiv_eq_ediv_of_nonneg h3.1
  have t2 : lt.tdiv lb = lt / lb := Int.tdiv_eq_ediv_of_nonneg h1.1
  have t3 : tp.tdiv bt = tp / bt := Int.tdiv_eq_ediv_of_nonneg h5.1
  have t4 : ht.tmod hb = ht % hb := Int.tmod_eq_emod_of_nonneg h3.1
  have t5 : lt.tmod lb = lt % lb := Int.tmod_eq_emod_of_nonneg h1.1
  have t6 : tp.tmod bt = tp % bt := Int.tmod_eq_emod_of_nonneg h5.1
  have b1 : 0 ≤ ht / hb ∧ ht / hb ≤ 100000000000 := ⟨Int.ediv_nonneg h3.1 (by omega), Int.le_trans (Int.ediv_le_self _ h3.1) h3.2⟩
  have b2 : 0 ≤ lt / lb ∧ lt / lb ≤ 100000000000 := ⟨Int.ediv_nonneg h1.1 (by omega), Int.le_trans (Int.ediv_le_self _ h1.1) h1.2⟩
  have b3 : 0 ≤ tp / bt ∧ tp / bt ≤ 1000 := ⟨Int.ediv_nonneg h5.1 (by omega), Int.le_trans (Int.ediv_le_self _ h5.1) h5.2⟩
  have b4 : 0 ≤ ht / hb - lt / lb := by
    have a1 : lb * (lt / lb) ≤ lt := by have := Int.mul_ediv_add_emod lt lb; have := Int.emod_nonneg lt (show lb ≠ 0 by omega); omega
    have a2 : hb * (lb * (lt / lb)) ≤ hb * lt := Int.mul_le_mul_of_nonneg_left a1 (by omega)
    have : lt / lb ≤ ht / hb := (Int.le_ediv_iff_mul_le (by omega)).2 (by
      have e1 : hb * (lb * (lt / lb)) = lb * (lt / lb * hb) := by grind
      have e2 : hb * lt = lt * hb := Int.mul_comm _ _
      have e3 : ht * lb = lb * ht := Int.mul_comm _ _
      exact Int.le_of_mul_le_mul_left (show lb * (lt / lb * hb) ≤ lb * ht by omega) (by omega))
    omega
  have f1 : IntKind.i64.wrap (ht / hb) = ht / hb := IntWalk.i64_in _ (by omega)
  have f2 : IntKind.i64.wrap (lt / lb) = lt / lb := IntWalk.i64_in _ (by omega)
  have f3 : IntKind.i64.wrap (tp / bt) = tp / bt := IntWalk.i64_in _ (by omega)
  have f4 : IntKind.i64.wrap (ht / hb - lt / lb) = ht / hb - lt / lb := IntWalk.i64_in _ (by omega)
  have f5 : IntKind.i64.wrap (tp / bt + 1) = tp / bt + 1 := IntWalk.i64_in _ (by omega)
  by_cases hbig : tp / bt + 1 < ht / hb - lt / lb
  · have hd : decide (tp / bt + 1 < ht / hb - lt / lb) = true := decide_eq_true hbig
    have HN := Lib.hid (near_big (tp := tp) h2.1 h4.1 h6.1 hbig)
    clear m h1 h2 h3 h4 h5 h6 hor b1 b2 b3 b4 hbig
    go_enter Try.func56, Try.ntmps56
    go_wp2_with fail
    go_region
    go_wp2_with fail
    go_ret
    exact ⟨ret_bool HN.out.symm, (below_alloc w _).drew⟩
  · have hd : decide (tp / bt + 1 < ht / hb - lt / lb) = false := decide_eq_false hbig
    have HN := Lib.hid (near_end (lt := lt) (ht := ht) (tp := tp) h2.1 h4.1 h6.1)
    have r1 : 0 ≤ ht % hb ∧ ht % hb ≤ 1000000 := ⟨Int.emod_nonneg _ (by omega), by have := Int.emod_lt_of_pos ht (show 0 < hb by omega); omega⟩
    have r2 : 0 ≤ lt % lb ∧ lt % lb ≤ 1000000 := ⟨Int.emod_nonneg _ (by omega), by have := Int.emod_lt_of_pos lt (show 0 < lb by omega); omega⟩
    have r3 : 0 ≤ tp % bt ∧ tp % bt ≤ 1000 := ⟨Int.emod_nonneg _ (by omega), by have := Int.emod_lt_of_pos tp (show 0 < bt by omega); omega⟩
    have p1 := m (ht % hb) lb 1000000 1000000 r1 (by omega)
    have p2 := m (lt % lb) hb 1000000 1000000 r2 (by omega)
    have p3 := m (ht / hb - lt / lb) hb 1001 1000000 (by omega) (by omega)
    have p4 := m ((ht / hb - lt / lb) * hb) lb (1001 * 1000000) 1000000 p3 (by omega)
    have p5 := m hb lb 1000000 1000000 (by omega) (by omega)
    have p6 := m (tp % bt) hb 1000 1000000 r3 (by omega)
    have p7 := m (tp % bt * hb) lb (1000 * 1000000) 1000000 p6 (by omega)
    have hP : 0 < hb * lb := Int.mul_pos (by omega) (by omega)
    have hL := near_left lt lb ht hb
    have hD0 : 0 ≤ ht * lb - lt * hb := by omega
    have c1 : 0 ≤ (ht * lb - lt * hb) / (hb * lb) := Int.ediv_nonneg hD0 (by omega)
    have c2 : (ht * lb - lt * hb) / (hb * lb) ≤ ht * lb - lt * hb := Int.ediv_le_self _ hD0
    have c3 : 0 ≤ (ht * lb - lt * hb) % (hb * lb) ∧ (ht * lb - lt * hb) % (hb * lb) ≤ 1000000000000 := ⟨Int.emod_nonneg _ (by omega), by have := Int.emod_lt_of_pos (ht * lb - lt * hb) hP; omega⟩
    have p8 := m ((ht * lb - lt * hb) % (hb * lb)) bt 1000000000000 1000 c3 (by omega)
    have g1 : IntKind.i64.wrap (ht % hb) = ht % hb := IntWalk.i64_in _ (by omega)
    have g2 : IntKind.i64.wrap (lt % lb) = lt % lb := IntWalk.i64_in _ (by omega)
    have g3 : IntKind.i64.wrap (tp % bt) = tp % bt := IntWalk.i64_in _ (by omega)
    have g4 : IntKind.i64.wrap (ht % hb * lb) = ht % hb * lb := IntWalk.i64_in _ (by omega)
    have g5 : IntKind.i64.wrap (lt % lb * hb) = lt % lb * hb := IntWalk.i64_in _ (by omega)
    have g6 : IntKind.i64.wrap ((ht / hb - lt / lb) * hb) = (ht / hb - lt / lb) * hb := IntWalk.i64_in _ (by omega)
    have g7 : IntKind.i64.wrap ((ht / hb - lt / lb) * hb * lb) = (ht / hb - lt / lb) * hb * lb := IntWalk.i64_in _ (by omega)
    have g8 : IntKind.i64.wrap (ht % hb * lb + (ht / hb - lt / lb) * hb * lb) = ht % hb * lb + (ht / hb - lt / lb) * hb * lb := IntWalk.i64_in _ (by omega)
    have g9 : IntKind.i64.wrap (ht % hb * lb + (ht / hb - lt / lb) * hb * lb - lt % lb * hb) = ht * lb - lt * hb := by rw [hL]; exact IntWalk.i64_in _ (by omega)
    have g10 : IntKind.i64.wrap (hb * lb) = hb * lb := IntWalk.i64_in _ (by omega)
    have g11 : IntKind.i64.wrap (tp % bt * hb) = tp % bt * hb := IntWalk.i64_in _ (by omega)
    have g12 : IntKind.i64.wrap (tp % bt * hb * lb) = tp % bt * hb * lb := IntWalk.i64_in _ (by omega)
    have x1 : (ht * lb - lt * hb).tdiv (hb * lb) = (ht * lb - lt * hb) / (hb * lb) := Int.tdiv_eq_ediv_of_nonneg hD0
    have x2 : (ht * lb - lt * hb).tmod (hb * lb) = (ht * lb - lt * hb) % (hb * lb) := Int.tmod_eq_emod_of_nonneg hD0
    have x3 : IntKind.i64.wrap ((ht * lb - lt * hb) / (hb * lb)) = (ht * lb - lt * hb) / (hb * lb) := IntWalk.i64_in _ (by omega)
    have x4 : IntKind.i64.wrap ((ht * lb - lt * hb) % (hb * lb)) = (ht * lb - lt * hb) % (hb * lb) := IntWalk.i64_in _ (by omega)
    have x5 : IntKind.i64.wrap ((ht * lb - lt * hb) % (hb * lb) * bt) = (ht * lb - lt * hb) % (hb * lb) * bt := IntWalk.i64_in _ (by omega)
    have hd2 : decide (ht * lb - lt * hb < 0) = false := decide_eq_false (by omega)
    have z4 : ¬ hb * lb = 0 := by omega
    have z4' : (hb * lb == 0) = false := by simp; omega
    clear hL
    obtain ⟨D, hD⟩ : ∃ D, D = ht * lb - lt * hb := ⟨_, rfl⟩
    rw [← hD] at HN g9 x1 x2 x3 x4 x5 hd2
    clear hD hD0 c1 c2 c3 p1 p2 p3 p4 p6 p7 p8 p5 hP r1 r2 r3 m h1 h2 h3 h4 h5 h6 hor b1 b2 b3 b4 hbig
    by_cases hq : D / (hb * lb) = tp / bt
    · have hd3 : (D / (hb * lb) != tp / bt) = false := by simp; exact hq
      have HN2 := Lib.hid (show nearB lt lb ht hb tp bt = decide (D % (hb * lb) * bt ≤ tp % bt * hb * lb) by rw [HN.out, if_pos hq])
      clear hq
      go_enter Try.func56, Try.ntmps56
      go_wp2_with fail
      go_region
      go_wp2_with fail
      go_region
      go_wp2_with fail
      go_region
      go_wp2_with fail
      go_region
      go_wp2_with fail
      go_ret
      exact ⟨by rw [HN2.out]; rfl, (((below_alloc w _).drew.drew).drew).drew⟩
    · have hd3 : (D / (hb * lb) != tp / bt) = true := by simp; exact hq
      have HN2 := Lib.hid (show nearB lt lb ht hb tp bt = decide (D / (hb * lb) < tp / bt) by rw [HN.out, if_neg hq])
      clear hq
      go_enter Try.func56, Try.ntmps56
      go_wp2_with fail
      go_region
      go_wp2_with fail
      go_region
      go_wp2_with fail
      go_region
      go_wp2_with fail
      go_region
      go_wp2_with fail
      go_ret
      exact ⟨by rw [HN2.out]; rfl, (((below_alloc w _).drew.drew).drew).drew⟩
end Go.Proofs.Ytbbgmfahdpimfaa
