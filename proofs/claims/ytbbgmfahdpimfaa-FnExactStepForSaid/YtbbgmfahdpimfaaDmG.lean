/- BoundsOf of both. -/
import Derived.Test.YtbbgmfahdpimfaaDmF
namespace Go.Proofs.Ytbbgmfahdpimfaa
open Go.RowKit
set_option linter.unusedSimpArgs false
/-- bounds and a code are returned -/
def BdRes (w : World) (a b c d code : Int) (e : Ending) (w' : World) : Prop := e = .returned (.tuple #[.agg #[.int .i64 a, .int .i64 b, .int .i64 c, .int .i64 d], .int .i64 code]) ∧ Below w.heap.size w w'
theorem eqBounds_f (a b c d : Int) (w : World) : Calls Try.prog 24 #[.agg #[.int .i64 a, .int .i64 b, .int .i64 c, .int .i64 d], .agg #[.int .i64 a, .int .i64 b, .int .i64 c, .int .i64 d]] w fun e w' => e = .returned (.bool true) ∧ Below w.heap.size w w' := by
  have h1 : (a != a) = false := by simp
  have h2 : (b != b) = false := by simp
  have h3 : (c != c) = false := by simp
  have h4 : (d != d) = false := by simp
  go_enter Try.func24, Try.ntmps24
  go_wp2_with fail
  go_ret
  exact ⟨rfl, (below_alloc w _).trans ((below_alloc _ _).mono (by simp))⟩
/-- a ring's box and a block for bounds -/
def boxBd (w : World) (v : Value) : World := (w.alloc (.cells #[v] 29)).alloc (.cells #[.int .i64 0, .int .i64 0, .int .i64 0, .int .i64 0] 37)
theorem boxBd_below (w : World) (v : Value) : Below w.heap.size w (boxBd w v) := (below_alloc w _).trans ((below_alloc _ _).mono (by simp))
theorem boxBd_size (w : World) (v : Value) : (boxBd w v).heap.size = w.heap.size + 2 := by unfold boxBd; simp
theorem boxBd_cell (w : World) (v : Value) : (boxBd w v).cell? ⟨w.heap.size, 0, none⟩ = some v := by
  unfold boxBd; rw [World.cell?_alloc_lt _ _ ⟨w.heap.size, 0, none⟩ (by simp)]; exact cell_box _ _ _
theorem boxBd_row (w : World) (v : Value) : RowI (boxBd w v) 37 (w.heap.size + 1) 4 (fun _ => 0) := by
  have := heap_alloc_new (w.alloc (.cells #[v] 29)) (.cells #[.int .i64 0, .int .i64 0, .int .i64 0, .int .i64 0] 37)
  simp only [World.size_alloc] at this
  refine ⟨_, this, fun i hi => ?_⟩
  rcases (by omega : i = 0 ∨ i = 1 ∨ i = 2 ∨ i = 3) with rfl | rfl | rfl | rfl <;> rfl
/-- the four numbers of the bounds, or 0 -/
def bdN (ok : Bool) (n : Nat) (f : Nat → Nat → Nat → Int) (i : Nat) (v : Nat → Int) (q : Nat) : Int :=
  if ok then (if q = 0 then (fmF lessB (topZ n f i v) v n).1 else if q = 1 then (fmF lessB (topZ n f i v) v n).2 else if q = 2 then (fmF greaterB (topZ n f i v) v n).1 else (fmF greaterB (topZ n f i v) v n).2) else 0
theorem bdV_bdN (n : Nat) (f : Nat → Nat → Nat → Int) (i : Nat) (v : Nat → Int) : bdV n f i v = .agg #[.int .i64 (bdN true n f i v 0), .int .i64 (bdN true n f i v 1), .int .i64 (bdN true n f i v 2), .int .i64 (bdN true n f i v 3)] := rfl
theorem bdN_f (n : Nat) (f : Nat → Nat → Nat → Int) (i : Nat) (v : Nat → Int) (q : Nat) : bdN false n f i v q = 0 := rfl
set_option maxRecDepth 100000 in
theorem implBounds_f (a : Option Addr) (n c : Nat) (M : Nat → Nat) (L : Nat → Nat → Nat) (f : Nat → Nat → Nat → Int) (i t : Int) (w : World) (h : RdT w a n M L f) (hn : n ≤ 1048576) (hM : ∀ i, i < n → M i ≤ 1048576) (hL : ∀ i, i < n → ∀ j, j < M i → L i j ≤ 1048576) (_ : (Lit.int .i64 i).wf = true) (_ : (Lit.int .i64 t).wf = true) :
    Calls Try.prog 23 #[.agg #[.slice a n c], .int .i64 i, .int .i64 t] w (BdRes w (bdN (ringB n M L f && (labB n i && inB 0 20 t) && okT n f t.toNat) n f i.toNat (wtZ n f t.toNat) 0) (bdN (ringB n M L f && (labB n i && inB 0 20 t) && okT n f t.toNat) n f i.toNat (wtZ n f t.toNat) 1) (bdN (ringB n M L f && (labB n i && inB 0 20 t) && okT n f t.toNat) n f i.toNat (wtZ n f t.toNat) 2) (bdN (ringB n M L f && (labB n i && inB 0 20 t) && okT n f t.toNat) n f i.toNat (wtZ n f t.toNat) 3) (cPow (ringB n M L f) (labB n i && inB 0 20 t) (okT n f t.toNat))) := by
  have HI := Lib.hid (fun u (hu : Below w.heap.size w u) => implIsRing_f a n c M L f u (h.below hu (Nat.le_refl _)) hn hM hL)
  have HS := Lib.hid (fun u => isStep_any t u)
  have HLb := Lib.hid (fun a u => hasLabel_f a n c i u)
  clear hM hL
  cases hr : ringB n M L f
  · rw [hr] at HI
    clear h hr HS HLb
    simp only [Bool.false_and, bdN_f]
    go_enter Try.func23, Try.ntmps23
    go_wp2_with fail
    obtain ⟨W, hW⟩ : ∃ W, W = boxBd w (.slice a n c) := ⟨_, rfl⟩
    have HW0 := Lib.hid (show Below w.heap.size w W by rw [hW]; exact boxBd_below w _)
    have HWs := Lib.hid (show W.heap.size = w.heap.size + 2 by rw [hW]; exact boxBd_size w _)
    have KW := Lib.hid (show W.cell? ⟨w.heap.size, 0, none⟩ = some (.slice a n c) by rw [hW]; exact boxBd_cell w _)
    have KR := Lib.hid (show RowI W 37 (w.heap.size + 1) 4 (fun _ => 0) by rw [hW]; exact boxBd_row w _)
    unfold boxBd at hW
    rw [← hW]
    clear hW
    refine (HI.out _ HW0.out).mono ?_
    rintro e w1 ⟨rfl, hb⟩
    have HB := Lib.hid hb
    clear hb
    have HT := Lib.hid (show Below w.heap.size w w1 from HW0.out.trans (HB.out.mono (by rw [HWs.out]; omega)))
    have e0 : w1.cell? ⟨w.heap.size, 0, none⟩ = some (.slice a n c) := (HB.out.cell (p := ⟨w.heap.size, 0, none⟩) (by rw [HWs.out]; show w.heap.size < _; omega)).trans KW.out
    have HR := Lib.hid (show RowI w1 37 (w.heap.size + 1) 4 (fun _ => 0) from RowB.below KR.out HB.out (by rw [HWs.out]; omega))
    have d0 := RowB.cell HR.out (i := 0) (by omega)
    have d1 := RowB.cell HR.out (i := 1) (by omega)
    have d2 := RowB.cell HR.out (i := 2) (by omega)
    have d3 := RowB.cell HR.out (i := 3) (by omega)
    have z0 := RowB.frozen HR.out 0
    have z1 := RowB.frozen HR.out 1
    have z2 := RowB.frozen HR.out 2
    have z3 := RowB.frozen HR.out 3
    go_wp2_with fail
    clear e0
    have HF4 := Lib.hid (RowI.set (RowI.set (RowI.set (RowI.set HR.out 0 0) 1 0) 2 0) 3 0)
    have HB4 := Lib.hid ((((HT.out.setCell (p := ⟨w.heap.size + 1, 0, none⟩) (by simp) (.int .i64 0)).setCell (p := ⟨w.heap.size + 1, 1, none⟩) (by simp) (.int .i64 0)).setCell (p := ⟨w.heap.size + 1, 2, none⟩) (by simp) (.int .i64 0)).setCell (p := ⟨w.heap.size + 1, 3, none⟩) (by simp) (.int .i64 0))
    have c0 := RowB.cell HF4.out (i := 0) (by omega)
    have c1' := RowB.cell HF4.out (i := 1) (by omega)
    have c2' := RowB.cell HF4.out (i := 2) (by omega)
    have c3' := RowB.cell HF4.out (i := 3) (by omega)
    simp at c0 c1' c2' c3'
    clear d0 d1 d2 d3 z0 z1 z2 z3
    refine bodyPost_ret (v := .tuple #[.agg #[.int .i64 0, .int .i64 0, .int .i64 0, .int .i64 0], .int .i64 1]) (by simp [results, Try.results23, go_sem, c0, c1', c2', c3']) rfl ⟨rfl, HB4.out⟩
  · obtain ⟨h0, h16, hf, hd, b, off, B, O, C, B2, O2, C2, rfl, hat⟩ := ring_open h hr
    rw [hr] at HI
    clear h hd hr
    cases hl : labB n i
    · rw [hl] at HLb
      clear hat hf hl HS
      simp only [Bool.false_and, Bool.true_and, bdN_f]
      go_enter Try.func23, Try.ntmps23
      go_wp2_with fail
      obtain ⟨W, hW⟩ : ∃ W, W = boxBd w (.slice (some ⟨b, off, none⟩) n c) := ⟨_, rfl⟩
      have HW0 := Lib.hid (show Below w.heap.size w W by rw [hW]; exact boxBd_below w _)
      have HWs := Lib.hid (show W.heap.size = w.heap.size + 2 by rw [hW]; exact boxBd_size w _)
      have KW := Lib.hid (show W.cell? ⟨w.heap.size, 0, none⟩ = some (.slice (some ⟨b, off, none⟩) n c) by rw [hW]; exact boxBd_cell w _)
      have KR := Lib.hid (show RowI W 37 (w.heap.size + 1) 4 (fun _ => 0) by rw [hW]; exact boxBd_row w _)
      unfold boxBd at hW
      rw [← hW]
      clear hW
      refine (HI.out _ HW0.out).mono ?_
      rintro e w1 ⟨rfl, hb⟩
      have HB := Lib.hid hb
      clear hb
      have HT := Lib.hid (show Below w.heap.size w w1 from HW0.out.trans (HB.out.mono (by rw [HWs.out]; omega)))
      have e0 : w1.cell? ⟨w.heap.size, 0, none⟩ = some (.slice (some ⟨b, off, none⟩) n c) := (HB.out.cell (p := ⟨w.heap.size, 0, none⟩) (by rw [HWs.out]; show w.heap.size < _; omega)).trans KW.out
      have HR := Lib.hid (show RowI w1 37 (w.heap.size + 1) 4 (fun _ => 0) from RowB.below KR.out HB.out (by rw [HWs.out]; omega))
      go_wp2_with fail
      clear e0 HT HR
      refine (HLb.out _ _).mono ?_
      rintro e w2 ⟨rfl, hb2⟩
      have HB2 := Lib.hid (HB.out.trans (hb2.mono HB.out.size))
      clear hb2 HB
      have HB := HB2
      clear HB2
      have HT := Lib.hid (show Below w.heap.size w w2 from HW0.out.trans (HB.out.mono (by rw [HWs.out]; omega)))
      have e0 : w2.cell? ⟨w.heap.size, 0, none⟩ = some (.slice (some ⟨b, off, none⟩) n c) := (HB.out.cell (p := ⟨w.heap.size, 0, none⟩) (by rw [HWs.out]; show w.heap.size < _; omega)).trans KW.out
      have HR := Lib.hid (show RowI w2 37 (w.heap.size + 1) 4 (fun _ => 0) from RowB.below KR.out HB.out (by rw [HWs.out]; omega))
      have d0 := RowB.cell HR.out (i := 0) (by omega)
      have d1 := RowB.cell HR.out (i := 1) (by omega)
      have d2 := RowB.cell HR.out (i := 2) (by omega)
      have d3 := RowB.cell HR.out (i := 3) (by omega)
      have z0 := RowB.frozen HR.out 0
      have z1 := RowB.frozen HR.out 1
      have z2 := RowB.frozen HR.out 2
      have z3 := RowB.frozen HR.out 3
      go_wp2_with fail
      clear e0
      have HF4 := Lib.hid (RowI.set (RowI.set (RowI.set (RowI.set HR.out 0 0) 1 0) 2 0) 3 0)
      have HB4 := Lib.hid ((((HT.out.setCell (p := ⟨w.heap.size + 1, 0, none⟩) (by simp) (.int .i64 0)).setCell (p := ⟨w.heap.size + 1, 1, none⟩) (by simp) (.int .i64 0)).setCell (p := ⟨w.heap.size + 1, 2, none⟩) (by simp) (.int .i64 0)).setCell (p := ⟨w.heap.size + 1, 3, none⟩) (by simp) (.int .i64 0))
      have c0 := RowB.cell HF4.out (i := 0) (by omega)
      have c1' := RowB.cell HF4.out (i := 1) (by omega)
      have c2' := RowB.cell HF4.out (i := 2) (by omega)
      have c3' := RowB.cell HF4.out (i := 3) (by omega)
      simp at c0 c1' c2' c3'
      clear d0 d1 d2 d3 z0 z1 z2 z3
      refine bodyPost_ret (v := .tuple #[.agg #[.int .i64 0, .int .i64 0, .int .i64 0, .int .i64 0], .int .i64 2]) (by simp [results, Try.results23, go_sem, c0, c1', c2', c3']) rfl ⟨rfl, HB4.out⟩
    · rw [hl] at HLb
      cases hs : inB 0 20 t
      · rw [hs] at HS
        clear hat hf hl hs
        simp only [Bool.false_and, Bool.and_false, bdN_f]
        go_enter Try.func23, Try.ntmps23
        go_wp2_with fail
        obtain ⟨W, hW⟩ : ∃ W, W = boxBd w (.slice (some ⟨b, off, none⟩) n c) := ⟨_, rfl⟩
        have HW0 := Lib.hid (show Below w.heap.size w W by rw [hW]; exact boxBd_below w _)
        have HWs := Lib.hid (show W.heap.size = w.heap.size + 2 by rw [hW]; exact boxBd_size w _)
        have KW := Lib.hid (show W.cell? ⟨w.heap.size, 0, none⟩ = some (.slice (some ⟨b, off, none⟩) n c) by rw [hW]; exact boxBd_cell w _)
        have KR := Lib.hid (show RowI W 37 (w.heap.size + 1) 4 (fun _ => 0) by rw [hW]; exact boxBd_row w _)
        unfold boxBd at hW
        rw [← hW]
        clear hW
        refine (HI.out _ HW0.out).mono ?_
        rintro e w1 ⟨rfl, hb⟩
        have HB := Lib.hid hb
        clear hb
        have HT := Lib.hid (show Below w.heap.size w w1 from HW0.out.trans (HB.out.mono (by rw [HWs.out]; omega)))
        have e0 : w1.cell? ⟨w.heap.size, 0, none⟩ = some (.slice (some ⟨b, off, none⟩) n c) := (HB.out.cell (p := ⟨w.heap.size, 0, none⟩) (by rw [HWs.out]; show w.heap.size < _; omega)).trans KW.out
        have HR := Lib.hid (show RowI w1 37 (w.heap.size + 1) 4 (fun _ => 0) from RowB.below KR.out HB.out (by rw [HWs.out]; omega))
        go_wp2_with fail
        clear e0 HT HR
        refine (HLb.out _ _).mono ?_
        rintro e w2 ⟨rfl, hb2⟩
        have HB2 := Lib.hid (HB.out.trans (hb2.mono HB.out.size))
        clear hb2 HB
        have HB := HB2
        clear HB2
        have HT := Lib.hid (show Below w.heap.size w w2 from HW0.out.trans (HB.out.mono (by rw [HWs.out]; omega)))
        have e0 : w2.cell? ⟨w.heap.size, 0, none⟩ = some (.slice (some ⟨b, off, none⟩) n c) := (HB.out.cell (p := ⟨w.heap.size, 0, none⟩) (by rw [HWs.out]; show w.heap.size < _; omega)).trans KW.out
        have HR := Lib.hid (show RowI w2 37 (w.heap.size + 1) 4 (fun _ => 0) from RowB.below KR.out HB.out (by rw [HWs.out]; omega))
        have d0 := RowB.cell HR.out (i := 0) (by omega)
        have d1 := RowB.cell HR.out (i := 1) (by omega)
        have d2 := RowB.cell HR.out (i := 2) (by omega)
        have d3 := RowB.cell HR.out (i := 3) (by omega)
        have z0 := RowB.frozen HR.out 0
        have z1 := RowB.frozen HR.out 1
        have z2 := RowB.frozen HR.out 2
        have z3 := RowB.frozen HR.out 3
        go_wp2_with fail
        refine (HS.out _).mono ?_
        rintro e w3 ⟨rfl, rfl⟩
        go_wp2_with fail
        clear e0
        have HF4 := Lib.hid (RowI.set (RowI.set (RowI.set (RowI.set HR.out 0 0) 1 0) 2 0) 3 0)
        have HB4 := Lib.hid ((((HT.out.setCell (p := ⟨w.heap.size + 1, 0, none⟩) (by simp) (.int .i64 0)).setCell (p := ⟨w.heap.size + 1, 1, none⟩) (by simp) (.int .i64 0)).setCell (p := ⟨w.heap.size + 1, 2, none⟩) (by simp) (.int .i64 0)).setCell (p := ⟨w.heap.size + 1, 3, none⟩) (by simp) (.int .i64 0))
        have c0 := RowB.cell HF4.out (i := 0) (by omega)
        have c1' := RowB.cell HF4.out (i := 1) (by omega)
        have c2' := RowB.cell HF4.out (i := 2) (by omega)
        have c3' := RowB.cell HF4.out (i := 3) (by omega)
        simp at c0 c1' c2' c3'
        clear d0 d1 d2 d3 z0 z1 z2 z3
        refine bodyPost_ret (v := .tuple #[.agg #[.int .i64 0, .int .i64 0, .int .i64 0, .int .i64 0], .int .i64 2]) (by simp [results, Try.results23, go_sem, c0, c1', c2', c3']) rfl ⟨rfl, HB4.out⟩
      · rw [hs] at HS
        have hr2 := inB_t hs
        have hlab : 0 ≤ i ∧ i < n := of_decide_eq_true hl
        obtain ⟨t', rfl⟩ : ∃ t' : Nat, t = t' := ⟨t.toNat, by omega⟩
        obtain ⟨i', rfl⟩ : ∃ i' : Nat, i = i' := ⟨i.toNat, by omega⟩
        have hi' : i' < n := by omega
        have HA := Lib.hid (fun u (hu : Below w.heap.size w u) => weights_f b off n c B O C B2 O2 C2 f t' u (hat.below hu) h16 h0 hf (by omega))
        have HAt := Lib.hid hat
        have HF := Lib.hid hf
        clear hat hf hl hs hr2 hlab
        simp only [Bool.true_and, Int.toNat_natCast]
        go_enter Try.func23, Try.ntmps23
        go_wp2_with fail
        obtain ⟨W, hW⟩ : ∃ W, W = boxBd w (.slice (some ⟨b, off, none⟩) n c) := ⟨_, rfl⟩
        have HW0 := Lib.hid (show Below w.heap.size w W by rw [hW]; exact boxBd_below w _)
        have HWs := Lib.hid (show W.heap.size = w.heap.size + 2 by rw [hW]; exact boxBd_size w _)
        have KW := Lib.hid (show W.cell? ⟨w.heap.size, 0, none⟩ = some (.slice (some ⟨b, off, none⟩) n c) by rw [hW]; exact boxBd_cell w _)
        have KR := Lib.hid (show RowI W 37 (w.heap.size + 1) 4 (fun _ => 0) by rw [hW]; exact boxBd_row w _)
        unfold boxBd at hW
        rw [← hW]
        clear hW
        refine (HI.out _ HW0.out).mono ?_
        rintro e w1 ⟨rfl, hb⟩
        have HB := Lib.hid hb
        clear hb
        have HT := Lib.hid (show Below w.heap.size w w1 from HW0.out.trans (HB.out.mono (by rw [HWs.out]; omega)))
        have e0 : w1.cell? ⟨w.heap.size, 0, none⟩ = some (.slice (some ⟨b, off, none⟩) n c) := (HB.out.cell (p := ⟨w.heap.size, 0, none⟩) (by rw [HWs.out]; show w.heap.size < _; omega)).trans KW.out
        have HR := Lib.hid (show RowI w1 37 (w.heap.size + 1) 4 (fun _ => 0) from RowB.below KR.out HB.out (by rw [HWs.out]; omega))
        go_wp2_with fail
        clear e0 HT HR
        refine (HLb.out _ _).mono ?_
        rintro e w2 ⟨rfl, hb2⟩
        have HB2 := Lib.hid (HB.out.trans (hb2.mono HB.out.size))
        clear hb2 HB
        have HB := HB2
        clear HB2
        have HT := Lib.hid (show Below w.heap.size w w2 from HW0.out.trans (HB.out.mono (by rw [HWs.out]; omega)))
        have e0 : w2.cell? ⟨w.heap.size, 0, none⟩ = some (.slice (some ⟨b, off, none⟩) n c) := (HB.out.cell (p := ⟨w.heap.size, 0, none⟩) (by rw [HWs.out]; show w.heap.size < _; omega)).trans KW.out
        have HR := Lib.hid (show RowI w2 37 (w.heap.size + 1) 4 (fun _ => 0) from RowB.below KR.out HB.out (by rw [HWs.out]; omega))
        go_wp2_with fail
        refine (HS.out _).mono ?_
        rintro e w3 ⟨rfl, rfl⟩
        go_wp2_with fail
        clear e0 HR
        refine (HA.out _ HT.out).mono ?_
        intro e w4 hres
        clear HT
        rcases hres with ⟨hok, g, cg, rfl, hg, hrow, hb4⟩ | ⟨hok, rfl, hb4⟩
        · have HB4 := Lib.hid (HB.out.trans (hb4.mono HB.out.size))
          have HQ := Lib.hid hrow
          have HO := Lib.hid hok
          clear hb4 hg hrow hok HB
          have HB := HB4
          clear HB4
          have HT := Lib.hid (show Below w.heap.size w w4 from HW0.out.trans (HB.out.mono (by rw [HWs.out]; omega)))
          have e0 : w4.cell? ⟨w.heap.size, 0, none⟩ = some (.slice (some ⟨b, off, none⟩) n c) := (HB.out.cell (p := ⟨w.heap.size, 0, none⟩) (by rw [HWs.out]; show w.heap.size < _; omega)).trans KW.out
          have HR := Lib.hid (show RowI w4 37 (w.heap.size + 1) 4 (fun _ => 0) from RowB.below KR.out HB.out (by rw [HWs.out]; omega))
          have HX := Lib.hid (bounds_f b off n c B O C B2 O2 C2 f i' (some ⟨g, 0, none⟩) cg (wtZ n f t') w4 (HAt.out.below HT.out) (RowI.rd HQ.out) h16 h0 HF.out (wt_bd HF.out (okT_t HO.out)) hi')
          go_wp2_with fail
          clear e0 HR HT
          refine HX.out.mono ?_
          rintro e w5 ⟨rfl, hb5⟩
          have HB5 := Lib.hid (HB.out.trans (hb5.mono HB.out.size))
          clear hb5 HB
          have HB := HB5
          clear HB5
          rw [bdV_bdN]
          obtain ⟨x1, hx1⟩ : ∃ x, x = bdN true n f i' (wtZ n f t') 0 := ⟨_, rfl⟩
          obtain ⟨x2, hx2⟩ : ∃ x, x = bdN true n f i' (wtZ n f t') 1 := ⟨_, rfl⟩
          obtain ⟨x3, hx3⟩ : ∃ x, x = bdN true n f i' (wtZ n f t') 2 := ⟨_, rfl⟩
          obtain ⟨x4, hx4⟩ : ∃ x, x = bdN true n f i' (wtZ n f t') 3 := ⟨_, rfl⟩
          rw [← hx1, ← hx2, ← hx3, ← hx4]
          have HX1 := Lib.hid hx1
          have HX2 := Lib.hid hx2
          have HX3 := Lib.hid hx3
          have HX4 := Lib.hid hx4
          clear hx1 hx2 hx3 hx4
          have HT := Lib.hid (show Below w.heap.size w w5 from HW0.out.trans (HB.out.mono (by rw [HWs.out]; omega)))
          have e0 : w5.cell? ⟨w.heap.size, 0, none⟩ = some (.slice (some ⟨b, off, none⟩) n c) := (HB.out.cell (p := ⟨w.heap.size, 0, none⟩) (by rw [HWs.out]; show w.heap.size < _; omega)).trans KW.out
          have HR := Lib.hid (show RowI w5 37 (w.heap.size + 1) 4 (fun _ => 0) from RowB.below KR.out HB.out (by rw [HWs.out]; omega))
          have d0 := RowB.cell HR.out (i := 0) (by omega)
          have d1 := RowB.cell HR.out (i := 1) (by omega)
          have d2 := RowB.cell HR.out (i := 2) (by omega)
          have d3 := RowB.cell HR.out (i := 3) (by omega)
          have z0 := RowB.frozen HR.out 0
          have z1 := RowB.frozen HR.out 1
          have z2 := RowB.frozen HR.out 2
          have z3 := RowB.frozen HR.out 3
          go_wp2_with fail
          clear e0
          have HF4 := Lib.hid (RowI.set (RowI.set (RowI.set (RowI.set HR.out 0 x1) 1 x2) 2 x3) 3 x4)
          have HB4 := Lib.hid ((((HT.out.setCell (p := ⟨w.heap.size + 1, 0, none⟩) (by simp) (.int .i64 x1)).setCell (p := ⟨w.heap.size + 1, 1, none⟩) (by simp) (.int .i64 x2)).setCell (p := ⟨w.heap.size + 1, 2, none⟩) (by simp) (.int .i64 x3)).setCell (p := ⟨w.heap.size + 1, 3, none⟩) (by simp) (.int .i64 x4))
          have c0 := RowB.cell HF4.out (i := 0) (by omega)
          have c1' := RowB.cell HF4.out (i := 1) (by omega)
          have c2' := RowB.cell HF4.out (i := 2) (by omega)
          have c3' := RowB.cell HF4.out (i := 3) (by omega)
          simp at c0 c1' c2' c3'
          clear d0 d1 d2 d3 z0 z1 z2 z3
          refine bodyPost_ret (v := .tuple #[.agg #[.int .i64 x1, .int .i64 x2, .int .i64 x3, .int .i64 x4], .int .i64 0]) (by simp [results, Try.results23, go_sem, c0, c1', c2', c3']) rfl ⟨by rw [HO.out, HX1.out, HX2.out, HX3.out, HX4.out]; rfl, HB4.out⟩
        · have HB4 := Lib.hid (HB.out.trans (hb4.mono HB.out.size))
          have HO := Lib.hid hok
          clear hb4 hok HB
          have HB := HB4
          clear HB4
          have HT := Lib.hid (show Below w.heap.size w w4 from HW0.out.trans (HB.out.mono (by rw [HWs.out]; omega)))
          have e0 : w4.cell? ⟨w.heap.size, 0, none⟩ = some (.slice (some ⟨b, off, none⟩) n c) := (HB.out.cell (p := ⟨w.heap.size, 0, none⟩) (by rw [HWs.out]; show w.heap.size < _; omega)).trans KW.out
          have HR := Lib.hid (show RowI w4 37 (w.heap.size + 1) 4 (fun _ => 0) from RowB.below KR.out HB.out (by rw [HWs.out]; omega))
          have d0 := RowB.cell HR.out (i := 0) (by omega)
          have d1 := RowB.cell HR.out (i := 1) (by omega)
          have d2 := RowB.cell HR.out (i := 2) (by omega)
          have d3 := RowB.cell HR.out (i := 3) (by omega)
          have z0 := RowB.frozen HR.out 0
          have z1 := RowB.frozen HR.out 1
          have z2 := RowB.frozen HR.out 2
          have z3 := RowB.frozen HR.out 3
          go_wp2_with fail
          clear e0
          have HF4 := Lib.hid (RowI.set (RowI.set (RowI.set (RowI.set HR.out 0 0) 1 0) 2 0) 3 0)
          have HB4 := Lib.hid ((((HT.out.setCell (p := ⟨w.heap.size + 1, 0, none⟩) (by simp) (.int .i64 0)).setCell (p := ⟨w.heap.size + 1, 1, none⟩) (by simp) (.int .i64 0)).setCell (p := ⟨w.heap.size + 1, 2, none⟩) (by simp) (.int .i64 0)).setCell (p := ⟨w.heap.size + 1, 3, none⟩) (by simp) (.int .i64 0))
          have c0 := RowB.cell HF4.out (i := 0) (by omega)
          have c1' := RowB.cell HF4.out (i := 1) (by omega)
          have c2' := RowB.cell HF4.out (i := 2) (by omega)
          have c3' := RowB.cell HF4.out (i := 3) (by omega)
          simp at c0 c1' c2' c3'
          clear d0 d1 d2 d3 z0 z1 z2 z3
          refine bodyPost_ret (v := .tuple #[.agg #[.int .i64 0, .int .i64 0, .int .i64 0, .int .i64 0], .int .i64 3]) (by simp [results, Try.results23, go_sem, c0, c1', c2', c3']) rfl ⟨by rw [HO.out]; rfl, HB4.out⟩
set_option maxRecDepth 100000 in
theorem specBounds_f (a : Option Addr) (n c : Nat) (M : Nat → Nat) (L : Nat → Nat → Nat) (f : Nat → Nat → Nat → Int) (i t : Int) (w : World) (h : RdT w a n M L f) (hn : n ≤ 1048576) (hM : ∀ i, i < n → M i ≤ 1048576) (hL : ∀ i, i < n → ∀ j, j < M i → L i j ≤ 1048576) (_ : (Lit.int .i64 i).wf = true) (_ : (Lit.int .i64 t).wf = true) :
    Calls Try.prog 22 #[.agg #[.slice a n c], .int .i64 i, .int .i64 t] w (BdRes w (bdN (ringB n M L f && (labB n i && inB 0 20 t) && okT n f t.toNat) n f i.toNat (wtZ n f t.toNat) 0) (bdN (ringB n M L f && (labB n i && inB 0 20 t) && okT n f t.toNat) n f i.toNat (wtZ n f t.toNat) 1) (bdN (ringB n M L f && (labB n i && inB 0 20 t) && okT n f t.toNat) n f i.toNat (wtZ n f t.toNat) 2) (bdN (ringB n M L f && (labB n i && inB 0 20 t) && okT n f t.toNat) n f i.toNat (wtZ n f t.toNat) 3) (cPow (ringB n M L f) (labB n i && inB 0 20 t) (okT n f t.toNat))) := by
  have HI := Lib.hid (fun u (hu : Below w.heap.size w u) => l03Is_f a n c M L f u (h.below hu (Nat.le_refl _)) hn hM hL)
  have HS := Lib.hid (fun u => l01In_any t 0 20 u)
  have HLb := Lib.hid (fun a u => l03Label_f a n c i u hn)
  clear hM hL
  cases hr : ringB n M L f
  · rw [hr] at HI
    clear h hr HS HLb
    simp only [Bool.false_and, bdN_f]
    go_enter Try.func22, Try.ntmps22
    go_wp2_with fail
    obtain ⟨W, hW⟩ : ∃ W, W = boxBd w (.slice a n c) := ⟨_, rfl⟩
    have HW0 := Lib.hid (show Below w.heap.size w W by rw [hW]; exact boxBd_below w _)
    have HWs := Lib.hid (show W.heap.size = w.heap.size + 2 by rw [hW]; exact boxBd_size w _)
    have KW := Lib.hid (show W.cell? ⟨w.heap.size, 0, none⟩ = some (.slice a n c) by rw [hW]; exact boxBd_cell w _)
    have KR := Lib.hid (show RowI W 37 (w.heap.size + 1) 4 (fun _ => 0) by rw [hW]; exact boxBd_row w _)
    unfold boxBd at hW
    rw [← hW]
    clear hW
    refine (HI.out _ HW0.out).mono ?_
    rintro e w1 ⟨rfl, hb⟩
    have HB := Lib.hid hb
    clear hb
    have HT := Lib.hid (show Below w.heap.size w w1 from HW0.out.trans (HB.out.mono (by rw [HWs.out]; omega)))
    have e0 : w1.cell? ⟨w.heap.size, 0, none⟩ = some (.slice a n c) := (HB.out.cell (p := ⟨w.heap.size, 0, none⟩) (by rw [HWs.out]; show w.heap.size < _; omega)).trans KW.out
    have HR := Lib.hid (show RowI w1 37 (w.heap.size + 1) 4 (fun _ => 0) from RowB.below KR.out HB.out (by rw [HWs.out]; omega))
    have d0 := RowB.cell HR.out (i := 0) (by omega)
    have d1 := RowB.cell HR.out (i := 1) (by omega)
    have d2 := RowB.cell HR.out (i := 2) (by omega)
    have d3 := RowB.cell HR.out (i := 3) (by omega)
    have z0 := RowB.frozen HR.out 0
    have z1 := RowB.frozen HR.out 1
    have z2 := RowB.frozen HR.out 2
    have z3 := RowB.frozen HR.out 3
    go_wp2_with fail
    clear e0
    have HF4 := Lib.hid (RowI.set (RowI.set (RowI.set (RowI.set HR.out 0 0) 1 0) 2 0) 3 0)
    have HB4 := Lib.hid ((((HT.out.setCell (p := ⟨w.heap.size + 1, 0, none⟩) (by simp) (.int .i64 0)).setCell (p := ⟨w.heap.size + 1, 1, none⟩) (by simp) (.int .i64 0)).setCell (p := ⟨w.heap.size + 1, 2, none⟩) (by simp) (.int .i64 0)).setCell (p := ⟨w.heap.size + 1, 3, none⟩) (by simp) (.int .i64 0))
    have c0 := RowB.cell HF4.out (i := 0) (by omega)
    have c1' := RowB.cell HF4.out (i := 1) (by omega)
    have c2' := RowB.cell HF4.out (i := 2) (by omega)
    have c3' := RowB.cell HF4.out (i := 3) (by omega)
    simp at c0 c1' c2' c3'
    clear d0 d1 d2 d3 z0 z1 z2 z3
    refine bodyPost_ret (v := .tuple #[.agg #[.int .i64 0, .int .i64 0, .int .i64 0, .int .i64 0], .int .i64 1]) (by simp [results, Try.results22, go_sem, c0, c1', c2', c3']) rfl ⟨rfl, HB4.out⟩
  · obtain ⟨h0, h16, hf, hd, b, off, B, O, C, B2, O2, C2, rfl, hat⟩ := ring_open h hr
    rw [hr] at HI
    clear h hd hr
    cases hl : labB n i
    · rw [hl] at HLb
      clear hat hf hl HS
      simp only [Bool.false_and, Bool.true_and, bdN_f]
      go_enter Try.func22, Try.ntmps22
      go_wp2_with fail
      obtain ⟨W, hW⟩ : ∃ W, W = boxBd w (.slice (some ⟨b, off, none⟩) n c) := ⟨_, rfl⟩
      have HW0 := Lib.hid (show Below w.heap.size w W by rw [hW]; exact boxBd_below w _)
      have HWs := Lib.hid (show W.heap.size = w.heap.size + 2 by rw [hW]; exact boxBd_size w _)
      have KW := Lib.hid (show W.cell? ⟨w.heap.size, 0, none⟩ = some (.slice (some ⟨b, off, none⟩) n c) by rw [hW]; exact boxBd_cell w _)
      have KR := Lib.hid (show RowI W 37 (w.heap.size + 1) 4 (fun _ => 0) by rw [hW]; exact boxBd_row w _)
      unfold boxBd at hW
      rw [← hW]
      clear hW
      refine (HI.out _ HW0.out).mono ?_
      rintro e w1 ⟨rfl, hb⟩
      have HB := Lib.hid hb
      clear hb
      have HT := Lib.hid (show Below w.heap.size w w1 from HW0.out.trans (HB.out.mono (by rw [HWs.out]; omega)))
      have e0 : w1.cell? ⟨w.heap.size, 0, none⟩ = some (.slice (some ⟨b, off, none⟩) n c) := (HB.out.cell (p := ⟨w.heap.size, 0, none⟩) (by rw [HWs.out]; show w.heap.size < _; omega)).trans KW.out
      have HR := Lib.hid (show RowI w1 37 (w.heap.size + 1) 4 (fun _ => 0) from RowB.below KR.out HB.out (by rw [HWs.out]; omega))
      go_wp2_with fail
      clear e0 HT HR
      refine (HLb.out _ _).mono ?_
      rintro e w2 ⟨rfl, hb2⟩
      have HB2 := Lib.hid (HB.out.trans (hb2.mono HB.out.size))
      clear hb2 HB
      have HB := HB2
      clear HB2
      have HT := Lib.hid (show Below w.heap.size w w2 from HW0.out.trans (HB.out.mono (by rw [HWs.out]; omega)))
      have e0 : w2.cell? ⟨w.heap.size, 0, none⟩ = some (.slice (some ⟨b, off, none⟩) n c) := (HB.out.cell (p := ⟨w.heap.size, 0, none⟩) (by rw [HWs.out]; show w.heap.size < _; omega)).trans KW.out
      have HR := Lib.hid (show RowI w2 37 (w.heap.size + 1) 4 (fun _ => 0) from RowB.below KR.out HB.out (by rw [HWs.out]; omega))
      have d0 := RowB.cell HR.out (i := 0) (by omega)
      have d1 := RowB.cell HR.out (i := 1) (by omega)
      have d2 := RowB.cell HR.out (i := 2) (by omega)
      have d3 := RowB.cell HR.out (i := 3) (by omega)
      have z0 := RowB.frozen HR.out 0
      have z1 := RowB.frozen HR.out 1
      have z2 := RowB.frozen HR.out 2
      have z3 := RowB.frozen HR.out 3
      go_wp2_with fail
      clear e0
      have HF4 := Lib.hid (RowI.set (RowI.set (RowI.set (RowI.set HR.out 0 0) 1 0) 2 0) 3 0)
      have HB4 := Lib.hid ((((HT.out.setCell (p := ⟨w.heap.size + 1, 0, none⟩) (by simp) (.int .i64 0)).setCell (p := ⟨w.heap.size + 1, 1, none⟩) (by simp) (.int .i64 0)).setCell (p := ⟨w.heap.size + 1, 2, none⟩) (by simp) (.int .i64 0)).setCell (p := ⟨w.heap.size + 1, 3, none⟩) (by simp) (.int .i64 0))
      have c0 := RowB.cell HF4.out (i := 0) (by omega)
      have c1' := RowB.cell HF4.out (i := 1) (by omega)
      have c2' := RowB.cell HF4.out (i := 2) (by omega)
      have c3' := RowB.cell HF4.out (i := 3) (by omega)
      simp at c0 c1' c2' c3'
      clear d0 d1 d2 d3 z0 z1 z2 z3
      refine bodyPost_ret (v := .tuple #[.agg #[.int .i64 0, .int .i64 0, .int .i64 0, .int .i64 0], .int .i64 2]) (by simp [results, Try.results22, go_sem, c0, c1', c2', c3']) rfl ⟨rfl, HB4.out⟩
    · rw [hl] at HLb
      cases hs : inB 0 20 t
      · rw [hs] at HS
        clear hat hf hl hs
        simp only [Bool.false_and, Bool.and_false, bdN_f]
        go_enter Try.func22, Try.ntmps22
        go_wp2_with fail
        obtain ⟨W, hW⟩ : ∃ W, W = boxBd w (.slice (some ⟨b, off, none⟩) n c) := ⟨_, rfl⟩
        have HW0 := Lib.hid (show Below w.heap.size w W by rw [hW]; exact boxBd_below w _)
        have HWs := Lib.hid (show W.heap.size = w.heap.size + 2 by rw [hW]; exact boxBd_size w _)
        have KW := Lib.hid (show W.cell? ⟨w.heap.size, 0, none⟩ = some (.slice (some ⟨b, off, none⟩) n c) by rw [hW]; exact boxBd_cell w _)
        have KR := Lib.hid (show RowI W 37 (w.heap.size + 1) 4 (fun _ => 0) by rw [hW]; exact boxBd_row w _)
        unfold boxBd at hW
        rw [← hW]
        clear hW
        refine (HI.out _ HW0.out).mono ?_
        rintro e w1 ⟨rfl, hb⟩
        have HB := Lib.hid hb
        clear hb
        have HT := Lib.hid (show Below w.heap.size w w1 from HW0.out.trans (HB.out.mono (by rw [HWs.out]; omega)))
        have e0 : w1.cell? ⟨w.heap.size, 0, none⟩ = some (.slice (some ⟨b, off, none⟩) n c) := (HB.out.cell (p := ⟨w.heap.size, 0, none⟩) (by rw [HWs.out]; show w.heap.size < _; omega)).trans KW.out
        have HR := Lib.hid (show RowI w1 37 (w.heap.size + 1) 4 (fun _ => 0) from RowB.below KR.out HB.out (by rw [HWs.out]; omega))
        go_wp2_with fail
        clear e0 HT HR
        refine (HLb.out _ _).mono ?_
        rintro e w2 ⟨rfl, hb2⟩
        have HB2 := Lib.hid (HB.out.trans (hb2.mono HB.out.size))
        clear hb2 HB
        have HB := HB2
        clear HB2
        have HT := Lib.hid (show Below w.heap.size w w2 from HW0.out.trans (HB.out.mono (by rw [HWs.out]; omega)))
        have e0 : w2.cell? ⟨w.heap.size, 0, none⟩ = some (.slice (some ⟨b, off, none⟩) n c) := (HB.out.cell (p := ⟨w.heap.size, 0, none⟩) (by rw [HWs.out]; show w.heap.size < _; omega)).trans KW.out
        have HR := Lib.hid (show RowI w2 37 (w.heap.size + 1) 4 (fun _ => 0) from RowB.below KR.out HB.out (by rw [HWs.out]; omega))
        have d0 := RowB.cell HR.out (i := 0) (by omega)
        have d1 := RowB.cell HR.out (i := 1) (by omega)
        have d2 := RowB.cell HR.out (i := 2) (by omega)
        have d3 := RowB.cell HR.out (i := 3) (by omega)
        have z0 := RowB.frozen HR.out 0
        have z1 := RowB.frozen HR.out 1
        have z2 := RowB.frozen HR.out 2
        have z3 := RowB.frozen HR.out 3
        go_wp2_with fail
        refine (HS.out _).mono ?_
        rintro e w3 ⟨rfl, rfl⟩
        go_wp2_with fail
        clear e0
        have HF4 := Lib.hid (RowI.set (RowI.set (RowI.set (RowI.set HR.out 0 0) 1 0) 2 0) 3 0)
        have HB4 := Lib.hid ((((HT.out.setCell (p := ⟨w.heap.size + 1, 0, none⟩) (by simp) (.int .i64 0)).setCell (p := ⟨w.heap.size + 1, 1, none⟩) (by simp) (.int .i64 0)).setCell (p := ⟨w.heap.size + 1, 2, none⟩) (by simp) (.int .i64 0)).setCell (p := ⟨w.heap.size + 1, 3, none⟩) (by simp) (.int .i64 0))
        have c0 := RowB.cell HF4.out (i := 0) (by omega)
        have c1' := RowB.cell HF4.out (i := 1) (by omega)
        have c2' := RowB.cell HF4.out (i := 2) (by omega)
        have c3' := RowB.cell HF4.out (i := 3) (by omega)
        simp at c0 c1' c2' c3'
        clear d0 d1 d2 d3 z0 z1 z2 z3
        refine bodyPost_ret (v := .tuple #[.agg #[.int .i64 0, .int .i64 0, .int .i64 0, .int .i64 0], .int .i64 2]) (by simp [results, Try.results22, go_sem, c0, c1', c2', c3']) rfl ⟨rfl, HB4.out⟩
      · rw [hs] at HS
        have hr2 := inB_t hs
        have hlab : 0 ≤ i ∧ i < n := of_decide_eq_true hl
        obtain ⟨t', rfl⟩ : ∃ t' : Nat, t = t' := ⟨t.toNat, by omega⟩
        obtain ⟨i', rfl⟩ : ∃ i' : Nat, i = i' := ⟨i.toNat, by omega⟩
        have hi' : i' < n := by omega
        have HA := Lib.hid (fun u (hu : Below w.heap.size w u) => l04Weights_f b off n c B O C B2 O2 C2 f t' u (hat.below hu) h16 h0 hf (by omega))
        have HAt := Lib.hid hat
        have HF := Lib.hid hf
        clear hat hf hl hs hr2 hlab
        simp only [Bool.true_and, Int.toNat_natCast]
        go_enter Try.func22, Try.ntmps22
        go_wp2_with fail
        obtain ⟨W, hW⟩ : ∃ W, W = boxBd w (.slice (some ⟨b, off, none⟩) n c) := ⟨_, rfl⟩
        have HW0 := Lib.hid (show Below w.heap.size w W by rw [hW]; exact boxBd_below w _)
        have HWs := Lib.hid (show W.heap.size = w.heap.size + 2 by rw [hW]; exact boxBd_size w _)
        have KW := Lib.hid (show W.cell? ⟨w.heap.size, 0, none⟩ = some (.slice (some ⟨b, off, none⟩) n c) by rw [hW]; exact boxBd_cell w _)
        have KR := Lib.hid (show RowI W 37 (w.heap.size + 1) 4 (fun _ => 0) by rw [hW]; exact boxBd_row w _)
        unfold boxBd at hW
        rw [← hW]
        clear hW
        refine (HI.out _ HW0.out).mono ?_
        rintro e w1 ⟨rfl, hb⟩
        have HB := Lib.hid hb
        clear hb
        have HT := Lib.hid (show Below w.heap.size w w1 from HW0.out.trans (HB.out.mono (by rw [HWs.out]; omega)))
        have e0 : w1.cell? ⟨w.heap.size, 0, none⟩ = some (.slice (some ⟨b, off, none⟩) n c) := (HB.out.cell (p := ⟨w.heap.size, 0, none⟩) (by rw [HWs.out]; show w.heap.size < _; omega)).trans KW.out
        have HR := Lib.hid (show RowI w1 37 (w.heap.size + 1) 4 (fun _ => 0) from RowB.below KR.out HB.out (by rw [HWs.out]; omega))
        go_wp2_with fail
        clear e0 HT HR
        refine (HLb.out _ _).mono ?_
        rintro e w2 ⟨rfl, hb2⟩
        have HB2 := Lib.hid (HB.out.trans (hb2.mono HB.out.size))
        clear hb2 HB
        have HB := HB2
        clear HB2
        have HT := Lib.hid (show Below w.heap.size w w2 from HW0.out.trans (HB.out.mono (by rw [HWs.out]; omega)))
        have e0 : w2.cell? ⟨w.heap.size, 0, none⟩ = some (.slice (some ⟨b, off, none⟩) n c) := (HB.out.cell (p := ⟨w.heap.size, 0, none⟩) (by rw [HWs.out]; show w.heap.size < _; omega)).trans KW.out
        have HR := Lib.hid (show RowI w2 37 (w.heap.size + 1) 4 (fun _ => 0) from RowB.below KR.out HB.out (by rw [HWs.out]; omega))
        go_wp2_with fail
        refine (HS.out _).mono ?_
        rintro e w3 ⟨rfl, rfl⟩
        go_wp2_with fail
        clear e0 HR
        refine (HA.out _ HT.out).mono ?_
        intro e w4 hres
        clear HT
        rcases hres with ⟨hok, g, cg, rfl, hg, hrow, hb4⟩ | ⟨hok, rfl, hb4⟩
        · have HB4 := Lib.hid (HB.out.trans (hb4.mono HB.out.size))
          have HQ := Lib.hid hrow
          have HO := Lib.hid hok
          clear hb4 hg hrow hok HB
          have HB := HB4
          clear HB4
          have HT := Lib.hid (show Below w.heap.size w w4 from HW0.out.trans (HB.out.mono (by rw [HWs.out]; omega)))
          have e0 : w4.cell? ⟨w.heap.size, 0, none⟩ = some (.slice (some ⟨b, off, none⟩) n c) := (HB.out.cell (p := ⟨w.heap.size, 0, none⟩) (by rw [HWs.out]; show w.heap.size < _; omega)).trans KW.out
          have HR := Lib.hid (show RowI w4 37 (w.heap.size + 1) 4 (fun _ => 0) from RowB.below KR.out HB.out (by rw [HWs.out]; omega))
          have HX := Lib.hid (l04Bounds_f b off n c B O C B2 O2 C2 f i' (some ⟨g, 0, none⟩) cg (wtZ n f t') w4 (HAt.out.below HT.out) (RowI.rd HQ.out) h16 h0 HF.out (wt_bd HF.out (okT_t HO.out)) hi')
          go_wp2_with fail
          clear e0 HR HT
          refine HX.out.mono ?_
          rintro e w5 ⟨rfl, hb5⟩
          have HB5 := Lib.hid (HB.out.trans (hb5.mono HB.out.size))
          clear hb5 HB
          have HB := HB5
          clear HB5
          rw [bdV_bdN]
          obtain ⟨x1, hx1⟩ : ∃ x, x = bdN true n f i' (wtZ n f t') 0 := ⟨_, rfl⟩
          obtain ⟨x2, hx2⟩ : ∃ x, x = bdN true n f i' (wtZ n f t') 1 := ⟨_, rfl⟩
          obtain ⟨x3, hx3⟩ : ∃ x, x = bdN true n f i' (wtZ n f t') 2 := ⟨_, rfl⟩
          obtain ⟨x4, hx4⟩ : ∃ x, x = bdN true n f i' (wtZ n f t') 3 := ⟨_, rfl⟩
          rw [← hx1, ← hx2, ← hx3, ← hx4]
          have HX1 := Lib.hid hx1
          have HX2 := Lib.hid hx2
          have HX3 := Lib.hid hx3
          have HX4 := Lib.hid hx4
          clear hx1 hx2 hx3 hx4
          have HT := Lib.hid (show Below w.heap.size w w5 from HW0.out.trans (HB.out.mono (by rw [HWs.out]; omega)))
          have e0 : w5.cell? ⟨w.heap.size, 0, none⟩ = some (.slice (some ⟨b, off, none⟩) n c) := (HB.out.cell (p := ⟨w.heap.size, 0, none⟩) (by rw [HWs.out]; show w.heap.size < _; omega)).trans KW.out
          have HR := Lib.hid (show RowI w5 37 (w.heap.size + 1) 4 (fun _ => 0) from RowB.below KR.out HB.out (by rw [HWs.out]; omega))
          have d0 := RowB.cell HR.out (i := 0) (by omega)
          have d1 := RowB.cell HR.out (i := 1) (by omega)
          have d2 := RowB.cell HR.out (i := 2) (by omega)
          have d3 := RowB.cell HR.out (i := 3) (by omega)
          have z0 := RowB.frozen HR.out 0
          have z1 := RowB.frozen HR.out 1
          have z2 := RowB.frozen HR.out 2
          have z3 := RowB.frozen HR.out 3
          go_wp2_with fail
          clear e0
          have HF4 := Lib.hid (RowI.set (RowI.set (RowI.set (RowI.set HR.out 0 x1) 1 x2) 2 x3) 3 x4)
          have HB4 := Lib.hid ((((HT.out.setCell (p := ⟨w.heap.size + 1, 0, none⟩) (by simp) (.int .i64 x1)).setCell (p := ⟨w.heap.size + 1, 1, none⟩) (by simp) (.int .i64 x2)).setCell (p := ⟨w.heap.size + 1, 2, none⟩) (by simp) (.int .i64 x3)).setCell (p := ⟨w.heap.size + 1, 3, none⟩) (by simp) (.int .i64 x4))
          have c0 := RowB.cell HF4.out (i := 0) (by omega)
          have c1' := RowB.cell HF4.out (i := 1) (by omega)
          have c2' := RowB.cell HF4.out (i := 2) (by omega)
          have c3' := RowB.cell HF4.out (i := 3) (by omega)
          simp at c0 c1' c2' c3'
          clear d0 d1 d2 d3 z0 z1 z2 z3
          refine bodyPost_ret (v := .tuple #[.agg #[.int .i64 x1, .int .i64 x2, .int .i64 x3, .int .i64 x4], .int .i64 0]) (by simp [results, Try.results22, go_sem, c0, c1', c2', c3']) rfl ⟨by rw [HO.out, HX1.out, HX2.out, HX3.out, HX4.out]; rfl, HB4.out⟩
        · have HB4 := Lib.hid (HB.out.trans (hb4.mono HB.out.size))
          have HO := Lib.hid hok
          clear hb4 hok HB
          have HB := HB4
          clear HB4
          have HT := Lib.hid (show Below w.heap.size w w4 from HW0.out.trans (HB.out.mono (by rw [HWs.out]; omega)))
          have e0 : w4.cell? ⟨w.heap.size, 0, none⟩ = some (.slice (some ⟨b, off, none⟩) n c) := (HB.out.cell (p := ⟨w.heap.size, 0, none⟩) (by rw [HWs.out]; show w.heap.size < _; omega)).trans KW.out
          have HR := Lib.hid (show RowI w4 37 (w.heap.size + 1) 4 (fun _ => 0) from RowB.below KR.out HB.out (by rw [HWs.out]; omega))
          have d0 := RowB.cell HR.out (i := 0) (by omega)
          have d1 := RowB.cell HR.out (i := 1) (by omega)
          have d2 := RowB.cell HR.out (i := 2) (by omega)
          have d3 := RowB.cell HR.out (i := 3) (by omega)
          have z0 := RowB.frozen HR.out 0
          have z1 := RowB.frozen HR.out 1
          have z2 := RowB.frozen HR.out 2
          have z3 := RowB.frozen HR.out 3
          go_wp2_with fail
          clear e0
          have HF4 := Lib.hid (RowI.set (RowI.set (RowI.set (RowI.set HR.out 0 0) 1 0) 2 0) 3 0)
          have HB4 := Lib.hid ((((HT.out.setCell (p := ⟨w.heap.size + 1, 0, none⟩) (by simp) (.int .i64 0)).setCell (p := ⟨w.heap.size + 1, 1, none⟩) (by simp) (.int .i64 0)).setCell (p := ⟨w.heap.size + 1, 2, none⟩) (by simp) (.int .i64 0)).setCell (p := ⟨w.heap.size + 1, 3, none⟩) (by simp) (.int .i64 0))
          have c0 := RowB.cell HF4.out (i := 0) (by omega)
          have c1' := RowB.cell HF4.out (i := 1) (by omega)
          have c2' := RowB.cell HF4.out (i := 2) (by omega)
          have c3' := RowB.cell HF4.out (i := 3) (by omega)
          simp at c0 c1' c2' c3'
          clear d0 d1 d2 d3 z0 z1 z2 z3
          refine bodyPost_ret (v := .tuple #[.agg #[.int .i64 0, .int .i64 0, .int .i64 0, .int .i64 0], .int .i64 3]) (by simp [results, Try.results22, go_sem, c0, c1', c2', c3']) rfl ⟨by rw [HO.out]; rfl, HB4.out⟩
end Go.Proofs.Ytbbgmfahdpimfaa
