/- Bounds of a label by weights: of the program. -/
import Derived.Test.YtpfodikmidgpmaaDmD
import Derived.Deep.AppendLies
namespace Go.Proofs.Ytpfodikmidgpmaa
open Go.RowKit
set_option linter.unusedSimpArgs false
theorem infoFr : (Try.prog.info? 106).map (fun i => (i.zero, i.size, i.bytes)) = some (some (.agg #[.int .i64 0, .int .i64 0]), 2, 16) := by kernel_rfl
/-- the cells of some fractions -/
def frL (T V : Nat → Int) (n : Nat) : List Value := (List.range n).flatMap fun j => [.int .i64 (T j), .int .i64 (V j)]
theorem frL_succ (T V : Nat → Int) (n : Nat) : frL T V (n + 1) = frL T V n ++ [.int .i64 (T n), .int .i64 (V n)] := by
  unfold frL; rw [List.range_succ, List.flatMap_append]; simp
theorem frL_len (T V : Nat → Int) (n : Nat) : (frL T V n).length = n * 2 := by
  induction n with
  | zero => rfl
  | succ n ih => rw [frL_succ, List.length_append, ih]; simp; omega
theorem frL_get (T V : Nat → Int) {n j : Nat} (hj : j < n) : (frL T V n)[j * 2]? = some (.int .i64 (T j)) ∧ (frL T V n)[j * 2 + 1]? = some (.int .i64 (V j)) := by
  induction n with
  | zero => omega
  | succ n ih =>
    rw [frL_succ]
    have hl := frL_len T V n
    by_cases e : j = n
    · subst e
      rw [List.getElem?_append_right (by omega), List.getElem?_append_right (by omega), hl]
      simp
    · rw [List.getElem?_append_left (by omega), List.getElem?_append_left (by omega)]
      exact ih (by omega)
/-- fractions that are being collected -/
structure AccF (w0 w : World) (v : Value) (n : Nat) (T V : Nat → Int) : Prop where
  own : w.ownsRow w0.heap.size 106 2 v n (frL T V n)
  bel : Below w0.heap.size w0 w
theorem AccF.read {w0 w : World} {g n cap : Nat} {T V : Nat → Int} (h : AccF w0 w (.slice (some ⟨g, 0, none⟩) n cap) n T V) : g < w.heap.size ∧ ∀ j, j < n → w.cell? ⟨g, 0 + j * 2, none⟩ = some (.int .i64 (T j)) ∧ w.cell? ⟨g, 0 + j * 2 + 1, none⟩ = some (.int .i64 (V j)) := by
  rcases h.own.2 with ⟨h0, _⟩ | ⟨g', cap', cur, h0, _, hg, _, _, _, hx⟩
  · cases h0
  · simp only [Value.slice.injEq, Option.some.injEq, Addr.mk.injEq, and_true, true_and] at h0
    obtain ⟨rfl, rfl⟩ := h0
    refine ⟨(Array.getElem?_eq_some_iff.1 hg).1, fun j hj => ?_⟩
    obtain ⟨e1, e2⟩ := frL_get T V hj
    rw [← hx, List.getElem?_take, if_pos (by omega)] at e1 e2
    simp only [World.cell?, hg, Nat.zero_add]
    simp only [Array.getElem?_toList] at e1 e2
    exact ⟨e1, e2⟩
/-- a fraction is appended, in a region that draws its order -/
theorem stepPushF (w : World) {ops : Array Oper} {o : Oper} {a : Act} {K : Act → World → Prop} {Q : Exit → Act → World → Prop} {E : Prop} (hgd : o.guard = none) (s x : Operand)
    (ho : o.op = .call { callee := .builtin .append, args := #[s, x], argTypes := #[103, 103] })
    (base : Nat) (v : Value) (n : Nat) (xs : List Value) (hs : a.eval s = v) (hown : w.ownsRow base 106 2 v n xs)
    (ad : Addr) (y z : Int) (hx : a.eval x = .slice (some ad) 1 1) (hy : ∀ j u, [Value.int .i64 y, .int .i64 z][j]? = some u → w.cell? (ad.add j) = some u) (hn : n ≤ 1000000000) (hbase : base ≤ w.heap.size)
    (h : ∀ g c w', w'.ownsRow base 106 2 (.slice (some ⟨g, 0, none⟩) (n + 1) c) (n + 1) (xs ++ [.int .i64 y, .int .i64 z]) → w.grownBy w' v.ownBlock → K (a.put o.dst (.slice (some ⟨g, 0, none⟩) (n + 1) c)) w') :
    if Region.wanted o (yielded ops a.tmps) = true then Oper.wp Try.prog o a w K Q else E := by
  obtain ⟨i0, hi, hz0, hz1, hz2⟩ := info_parts infoFr
  exact step_append_lies w hgd s x _ ho base 106 i0 (.agg #[.int .i64 0, .int .i64 0]) 2 16 Try.underlying103 hi hz0 hz1 hz2 rfl (by decide) v n xs hs hown ad 1 1 [.int .i64 y, .int .i64 z] hx rfl hy (fun u hu => by
    simp only [List.mem_cons, List.not_mem_nil, or_false] at hu
    rcases hu with rfl | rfl <;> rfl) (by decide) (by unfold maxLen; omega) (by omega) hbase _ rfl (fun g c w' h1 h2 _ _ => h g c w' h1 h2)
theorem cell_two_new (w : World) (x y : Value) (t : TypeId) : ∀ j u, [x, y][j]? = some u → (w.alloc (.cells #[x, y] t)).cell? ((⟨w.heap.size, 0, none⟩ : Addr).add j) = some u := by
  intro j u hu
  rw [add_flat, Nat.zero_add]
  have hb := heap_alloc_new w (.cells #[x, y] t)
  simp only [World.cell?, hb]
  rcases j with _ | _ | j
  · simpa using hu
  · simpa using hu
  · simp at hu
def lessB (t1 b1 t2 b2 : Int) : Bool := decide (t1 * b2 < t2 * b1)
def greaterB (t1 b1 t2 b2 : Int) : Bool := decide (t2 * b1 < t1 * b2)
/-- the top for the label j -/
def topZ (n : Nat) (f : Nat → Nat → Nat → Int) (i : Nat) (v : Nat → Int) (j : Nat) : Int := sumZ (fun k => f i j k * v k) n
theorem top_bd {n : Nat} (hn : n ≤ 16) {f : Nat → Nat → Nat → Int} {v : Nat → Int} (hf : ∀ i j k, i < n → j < n → k < n → 0 ≤ f i j k ∧ f i j k ≤ 1000) (hv : ∀ k, k < n → 0 ≤ v k ∧ v k ≤ 1000000) {i j : Nat} (hi : i < n) (hj : j < n) : 0 ≤ topZ n f i v j ∧ topZ n f i v j ≤ 100000000000 := by
  have h1 : ∀ k, k < n → 0 ≤ f i j k * v k ∧ f i j k * v k ≤ 1000000000 := fun k hk => by
    have a := hf i j k hi hj hk
    have b := hv k hk
    refine ⟨Int.mul_nonneg a.1 b.1, ?_⟩
    have : f i j k * v k ≤ 1000 * 1000000 := Int.mul_le_mul a.2 b.2 b.1 (by omega)
    omega
  have h2 := sumZ_bd (g := fun k => f i j k * v k) (n := n) (B := 1000000000) h1
  unfold topZ
  exact ⟨h2.1, by omega⟩
/-- the bounds as a value -/
def bdV (n : Nat) (f : Nat → Nat → Nat → Int) (i : Nat) (v : Nat → Int) : Value :=
  .agg #[.int .i64 (fmF lessB (topZ n f i v) v n).1, .int .i64 (fmF lessB (topZ n f i v) v n).2, .int .i64 (fmF greaterB (topZ n f i v) v n).1, .int .i64 (fmF greaterB (topZ n f i v) v n).2]
set_option maxRecDepth 100000 in
theorem bounds_f (b off n c : Nat) (B O C : Nat → Nat) (B2 O2 C2 : Nat → Nat → Nat) (f : Nat → Nat → Nat → Int) (i : Nat) (a1 : Option Addr) (c1 : Nat) (v : Nat → Int) (w : World) (h : CubeAt w b off n B O C B2 O2 C2 f) (h1 : RdR w a1 n v) (hn : n ≤ 16) (h0 : 0 < n) (hf : ∀ i j k, i < n → j < n → k < n → 0 ≤ f i j k ∧ f i j k ≤ 1000) (hv : ∀ k, k < n → 0 ≤ v k ∧ v k ≤ 1000000) (hi : i < n) :
    Calls Try.prog 115 #[.agg #[.slice (some ⟨b, off, none⟩) n c], .int .i64 i, .slice a1 n c1] w fun e w' => e = .returned (bdV n f i v) ∧ Below w.heap.size w w' := by
  obtain ⟨bx, ox, rfl, hbx, hcx⟩ := h1.open h0
  have H := Lib.hid h
  have HX := Lib.hid hcx
  have HF := Lib.hid hf
  have HV := Lib.hid hv
  obtain ⟨W, hW⟩ : ∃ W, W = (w.alloc (.cells #[.slice (some ⟨b, off, none⟩) n c] 28)).alloc (.cells #[.int .i64 0, .int .i64 0, .int .i64 0, .int .i64 0] 98) := ⟨_, rfl⟩
  have HW0 := Lib.hid (show Below w.heap.size w W by rw [hW]; exact (below_alloc w _).trans ((below_alloc _ _).mono (by simp)))
  have HWs := Lib.hid (show W.heap.size = w.heap.size + 2 by rw [hW]; simp)
  have KW := Lib.hid (show W.cell? ⟨w.heap.size, 0, none⟩ = some (.slice (some ⟨b, off, none⟩) n c) by rw [hW, World.cell?_alloc_lt _ _ ⟨w.heap.size, 0, none⟩ (by simp)]; exact cell_box _ _ _)
  have KR := Lib.hid (show RowI W 98 (w.heap.size + 1) 4 (fun _ => 0) by
    rw [hW]
    have := heap_alloc_new (w.alloc (.cells #[.slice (some ⟨b, off, none⟩) n c] 28)) (.cells #[.int .i64 0, .int .i64 0, .int .i64 0, .int .i64 0] 98)
    simp only [World.size_alloc] at this
    refine ⟨_, this, fun i hi => ?_⟩
    rcases (by omega : i = 0 ∨ i = 1 ∨ i = 2 ∨ i = 3) with rfl | rfl | rfl | rfl <;> rfl)
  have HR := Lib.hid (show (W.alloc (.cells #[] 106)).ownsRow W.heap.size 106 2 (.slice (some ⟨W.heap.size, 0, none⟩) 0 0) 0 (frL (topZ n f i v) v 0) from World.ownsRow_lit W #[] 0 (Nat.le_refl _) (by decide) rfl)
  have hin0 := (h.row i hi).1
  have e0 : ((w.alloc (.cells #[.slice (some ⟨b, off, none⟩) n c] 28)).alloc (.cells #[.int .i64 0, .int .i64 0, .int .i64 0, .int .i64 0] 98)).cell? ⟨w.heap.size, 0, none⟩ = some (.slice (some ⟨b, off, none⟩) n c) := by rw [← hW]; exact KW.out
  have e1 : (W.alloc (.cells #[] 106)).cell? ⟨b, off + i, none⟩ = some (.slice (some ⟨B i, O i, none⟩) n (C i)) := by
    rw [((HW0.out.alloc HW0.out.size _).cell (p := ⟨b, off + i, none⟩) h.lt)]; exact hin0
  rw [hW] at e1
  have HWe := Lib.hid hW
  clear h h1 hf hv hcx hW hin0
  have HCL := Lib.hid (fun q u (hq : q < n) (hu : Below w.heap.size w u) => sumOfProducts_f (some ⟨B2 i q, O2 i q, none⟩) (some ⟨bx, ox, none⟩) n (C2 i q) c1 (f i q) v u ((H.out.below hu).rdRow hi hq) (Or.inr ⟨bx, ox, rfl, Nat.lt_of_lt_of_le hbx hu.size, fun k hk => by rw [hu.cell (p := ⟨bx, ox + k, none⟩) hbx]; exact HX.out k hk⟩) h0 (by omega) (fun k hk => by
    have a := HF.out i q k hi hq hk
    have b := HV.out k hk
    have : f i q k * v k ≤ 1000 * 1000000 := Int.mul_le_mul a.2 b.2 b.1 (by omega)
    exact ⟨Int.mul_nonneg a.1 b.1, by omega⟩))
  go_enter Try.func115, Try.ntmps115
  go_wp2_with fail
  clear e0 e1
  go_loopw [7, 19] (fun y x wr => ∃ (q g cg : Nat), q ≤ n ∧ x = .int .i64 q ∧ y = .slice (some ⟨g, 0, none⟩) q cg ∧ AccF W wr (.slice (some ⟨g, 0, none⟩) q cg) q (topZ n f i v) v) (fun _ x _ => n - (intOf x).toNat)
  case atStart =>
    refine ⟨0, _, 0, by omega, rfl, rfl, ?_, ?_⟩
    · have := HR.out
      rw [HWs.out, HWe.out] at this
      rw [HWs.out]
      exact this
    · rw [HWe.out]; exact below_alloc _ _
  case round =>
    obtain ⟨q, g, cg, hq, rfl, rfl, hacc⟩ := hrel
    have HA := Lib.hid hacc
    have HT := Lib.hid (show Below w.heap.size w wr from HW0.out.trans (hacc.bel.mono (by rw [HWs.out]; omega)))
    clear hacc
    by_cases hqn : q < n
    · have HS := Lib.hid (HCL.out q wr.drew hqn HT.out.drew)
      have e1 := ((H.out.below HT.out).col i q hi hqn).1
      have e2 : wr.cell? ⟨bx, ox + q, none⟩ = some (.int .i64 (v q)) := by rw [HT.out.cell (p := ⟨bx, ox + q, none⟩) hbx]; exact HX.out q hqn
      have hsz := HA.out.bel.size
      obtain ⟨S, hS⟩ : ∃ x, x = topZ n f i v q := ⟨_, rfl⟩
      have HS2 := Lib.hid (show Calls Try.prog 122 #[.slice (some ⟨B2 i q, O2 i q, none⟩) n (C2 i q), .slice (some ⟨bx, ox, none⟩) n c1] wr.drew fun e w' => e = .returned (.int .i64 S) ∧ wr.drew = w' by rw [hS]; exact HS.out)
      have HSe := Lib.hid hS
      clear hS HS
      obtain ⟨vq, hvq⟩ : ∃ x, x = v q := ⟨_, rfl⟩
      rw [← hvq] at e2
      have HVe := Lib.hid hvq
      clear hvq
      generalize B2 i q = b4 at *
      generalize O2 i q = o4 at *
      generalize C2 i q = c4 at *
      go_wp2_with fail
      go_region_law (first | (refine stepPushF _ rfl (.tmp 24) (.tmp 33) rfl W.heap.size (.slice (some ⟨g, 0, none⟩) q cg) q _ (by simp [Act.eval]) (by exact HA.out.own.alloc _) ⟨wr.heap.size, 0, none⟩ S vq (by simp [Act.eval]) (by exact cell_two_new _ _ _ _) (by omega) (by simp; omega) ?_; intro g3 c3 w3 hown3 hgr3) | (go_simp; go_at_call 122; refine HS2.out.mono ?_; rintro e w' ⟨rfl, rfl⟩))
      all_goals
        have HP := Lib.hid (show AccF W w3 (.slice (some ⟨g3, 0, none⟩) (q + 1) c3) (q + 1) (topZ n f i v) v from ⟨by rw [frL_succ, ← HSe.out, ← HVe.out]; exact hown3, (HA.out.bel.drew.alloc HA.out.bel.drew.size _).grown hgr3 (by simp; omega) (fun q hq => (HA.out.own.lt q hq).1)⟩)
        clear hown3 hgr3
        go_wp2_with fail
        exact ⟨⟨q + 1, g3, c3, by omega, by go_num, rfl, HP.out⟩, by simp [intOf]; omega⟩
    · obtain rfl : q = n := by omega
      obtain ⟨hg, hread⟩ := HA.out.read
      have HG := Lib.hid hg
      have HRd := Lib.hid hread
      have HRes := Lib.hid (show RowI wr 98 (w.heap.size + 1) 4 (fun _ => 0) from RowB.below KR.out HA.out.bel (by rw [HWs.out]; omega))
      have HB := Lib.hid HA.out.bel
      have hbd := fun j (hj : j < q) => top_bd hn HF.out HV.out hi hj
      have HFl := Lib.hid (fun (i' j' : Nat) (u : World) (hi' : i' < q) (hj' : j' < q) => isLess_f (topZ q f i v i') (v i') (topZ q f i v j') (v j') u (hbd i' hi') (by have := HV.out i' hi'; omega) (hbd j' hj') (by have := HV.out j' hj'; omega))
      have HFg := Lib.hid (fun (i' j' : Nat) (u : World) (hi' : i' < q) (hj' : j' < q) => isGreater_f (topZ q f i v i') (v i') (topZ q f i v j') (v j') u (hbd i' hi') (by have := HV.out i' hi'; omega) (hbd j' hj') (by have := HV.out j' hj'; omega))
      clear hg hread hbd
      go_wp2_with fail
      refine (foremost_f 124 lessB g 0 q cg (topZ q f i v) v wr HG.out HRd.out h0 (by omega) enter_less HFl.out).mono ?_
      rintro e w1 ⟨rfl, hb1⟩
      obtain ⟨x1, hx1⟩ : ∃ x, x = (fmF lessB (topZ q f i v) v q).1 := ⟨_, rfl⟩
      obtain ⟨x2, hx2⟩ : ∃ x, x = (fmF lessB (topZ q f i v) v q).2 := ⟨_, rfl⟩
      have HX1 := Lib.hid hx1
      have HX2 := Lib.hid hx2
      rw [← hx1, ← hx2]
      have HB1 := Lib.hid hb1
      clear hx1 hx2 hb1
      go_wp2_with fail
      obtain ⟨w2, hw2⟩ : ∃ x, x = w1.alloc (.cells #[.int .i64 x1, .int .i64 x2] 106) := ⟨_, rfl⟩
      rw [← hw2]
      have HB2 := Lib.hid (show Below wr.heap.size wr w2 by rw [hw2]; exact HB1.out.alloc HB1.out.size _)
      have HC2 := Lib.hid (show w2.cell? ⟨w1.heap.size, 0, none⟩ = some (.int .i64 x1) ∧ w2.cell? ⟨w1.heap.size, 1, none⟩ = some (.int .i64 x2) ∧ w1.heap.size < w2.heap.size by rw [hw2]; simp)
      clear hw2
      refine (foremost_f 125 greaterB g 0 q cg (topZ q f i v) v w2 (Nat.lt_of_lt_of_le HG.out HB2.out.size) (fun j hj => by
        rw [HB2.out.cell (p := ⟨g, 0 + j * 2, none⟩) HG.out, HB2.out.cell (p := ⟨g, 0 + j * 2 + 1, none⟩) HG.out]; exact HRd.out j hj) h0 (by omega) enter_greater HFg.out).mono ?_
      rintro e w3 ⟨rfl, hb3⟩
      obtain ⟨x3, hx3⟩ : ∃ x, x = (fmF greaterB (topZ q f i v) v q).1 := ⟨_, rfl⟩
      obtain ⟨x4, hx4⟩ : ∃ x, x = (fmF greaterB (topZ q f i v) v q).2 := ⟨_, rfl⟩
      have HX3 := Lib.hid hx3
      have HX4 := Lib.hid hx4
      rw [← hx3, ← hx4]
      have HB3 := Lib.hid hb3
      clear hx3 hx4 hb3
      have hs3 : w1.heap.size < w3.heap.size := Nat.lt_of_lt_of_le HC2.out.2.2 HB3.out.size
      have e1 : (w3.alloc (.cells #[.int .i64 x3, .int .i64 x4] 106)).cell? ⟨w1.heap.size, 0, none⟩ = some (.int .i64 x1) := by
        rw [World.cell?_alloc_lt _ _ ⟨w1.heap.size, 0, none⟩ hs3, HB3.out.cell (p := ⟨w1.heap.size, 0, none⟩) HC2.out.2.2]; exact HC2.out.1
      have e2 : (w3.alloc (.cells #[.int .i64 x3, .int .i64 x4] 106)).cell? ⟨w1.heap.size, 1, none⟩ = some (.int .i64 x2) := by
        rw [World.cell?_alloc_lt _ _ ⟨w1.heap.size, 1, none⟩ hs3, HB3.out.cell (p := ⟨w1.heap.size, 1, none⟩) HC2.out.2.2]; exact HC2.out.2.1
      have HRq := Lib.hid (show RowI (w3.alloc (.cells #[.int .i64 x3, .int .i64 x4] 106)) 98 (w.heap.size + 1) 4 (fun _ => 0) from
        RowB.alloc (RowB.below (RowB.below HRes.out HB2.out (RowB.lt HRes.out)) HB3.out (Nat.lt_of_lt_of_le (RowB.lt HRes.out) HB2.out.size)) _)
      have d0 := RowB.cell HRq.out (i := 0) (by omega)
      have d1 := RowB.cell HRq.out (i := 1) (by omega)
      have d2 := RowB.cell HRq.out (i := 2) (by omega)
      have d3 := RowB.cell HRq.out (i := 3) (by omega)
      have z0 := RowB.frozen HRq.out 0
      have z1 := RowB.frozen HRq.out 1
      have z2 := RowB.frozen HRq.out 2
      have z3 := RowB.frozen HRq.out 3
      go_wp2_with fail
      obtain ⟨wz, hwz⟩ : ∃ x, x = w3.alloc (.cells #[.int .i64 x3, .int .i64 x4] 106) := ⟨_, rfl⟩
      rw [← hwz] at HRq ⊢
      have HBz := Lib.hid (show Below w.heap.size w wz by rw [hwz]; exact (HT.out.trans ((HB2.out.trans (HB3.out.mono HB2.out.size)).mono HT.out.size)).alloc (by have := HT.out.size; have := HB2.out.size; have := HB3.out.size; omega) _)
      have HF4 := Lib.hid (RowI.set (RowI.set (RowI.set (RowI.set HRq.out 0 x1) 1 x2) 2 x3) 3 x4)
      have HB4 := Lib.hid ((((HBz.out.setCell (p := ⟨w.heap.size + 1, 0, none⟩) (by simp) (.int .i64 x1)).setCell (p := ⟨w.heap.size + 1, 1, none⟩) (by simp) (.int .i64 x2)).setCell (p := ⟨w.heap.size + 1, 2, none⟩) (by simp) (.int .i64 x3)).setCell (p := ⟨w.heap.size + 1, 3, none⟩) (by simp) (.int .i64 x4))
      have c0 := RowB.cell HF4.out (i := 0) (by omega)
      have c1' := RowB.cell HF4.out (i := 1) (by omega)
      have c2' := RowB.cell HF4.out (i := 2) (by omega)
      have c3' := RowB.cell HF4.out (i := 3) (by omega)
      simp at c0 c1' c2' c3'
      clear hwz d0 d1 d2 d3 z0 z1 z2 z3 e1 e2
      refine bodyPost_ret (v := .agg #[.int .i64 x1, .int .i64 x2, .int .i64 x3, .int .i64 x4]) (by simp [results, Try.results115, go_sem, c0, c1', c2', c3']) rfl ⟨?_, HB4.out⟩
      rw [HX1.out, HX2.out, HX3.out, HX4.out]; rfl
end Go.Proofs.Ytpfodikmidgpmaa
