/- All faults; whether something is a ring: of the program. -/
import Derived.Test.YtmdmojklagmmiaaRgE
import Derived.Lib.SliceRun
import Derived.Laws.Cover3
namespace Go.Proofs.Ytmdmojklagmmiaa
open Go.RowKit
set_option linter.unusedSimpArgs false
/-- what a cube says of its numbers -/
theorem cub_num {n : Nat} {M : Nat → Nat} {L : Nat → Nat → Nat} {f : Nat → Nat → Nat → Int} (h : cubB n M L f = true) : 0 < n ∧ n ≤ 16 ∧ ∀ i j k, i < n → j < n → k < n → 0 ≤ f i j k ∧ f i j k ≤ 1000 := by
  obtain ⟨h1, h2, h3⟩ := cubB_t h
  exact ⟨h1, h2, fun i j k hi hj hk => ((h3 i hi).2 j hj).2 k hk⟩
theorem cub_rd {w : World} {a : Option Addr} {n : Nat} {M : Nat → Nat} {L : Nat → Nat → Nat} {f : Nat → Nat → Nat → Int} (h : RdT w a n M L f) (hc : cubB n M L f = true) : RdT w a n (fun _ => n) (fun _ _ => n) f := by
  obtain ⟨h1, h2, h3⟩ := cubB_t hc
  exact h.congr (fun i hi => (h3 i hi).1) (fun i hi j hj => ((h3 i hi).2 j (by rw [← (h3 i hi).1]; exact hj)).1) (fun _ _ _ _ _ _ => rfl)
theorem flt_U {n : Nat} {f : Nat → Nat → Nat → Int} (h : fltU n f ≠ []) : flt n f = fltU n f := by unfold flt; rw [if_neg h]
theorem flt_D {n : Nat} {f : Nat → Nat → Nat → Int} (h : fltU n f = []) (h2 : fltD n f ≠ []) : flt n f = fltD n f := by unfold flt; rw [if_pos h, if_neg h2]
theorem flt_T {n : Nat} {f : Nat → Nat → Nat → Int} (h : fltU n f = []) (h2 : fltD n f = []) (h3 : fltT n f ≠ []) : flt n f = fltT n f := by unfold flt; rw [if_pos h, if_pos h2, if_neg h3]
theorem flt_S {n : Nat} {f : Nat → Nat → Nat → Int} (h : fltU n f = []) (h2 : fltD n f = []) (h3 : fltT n f = []) : flt n f = fltS n f := by unfold flt; rw [if_pos h, if_pos h2, if_pos h3]
theorem flt_duals {n : Nat} {f : Nat → Nat → Nat → Int} (h : flt n f = []) : ∀ i, i < n → 0 ≤ dualOf n f i := by
  refine db_nonneg ?_
  unfold flt at h
  by_cases h1 : fltU n f = []
  · rw [if_pos h1] at h
    by_cases h2 : fltD n f = []
    · exact h2
    · rw [if_neg h2] at h; exact h
  · rw [if_neg h1] at h; exact absurd h h1
set_option maxRecDepth 100000 in
theorem fault_f (b off n c : Nat) (B O C : Nat → Nat) (B2 O2 C2 : Nat → Nat → Nat) (f : Nat → Nat → Nat → Int) (w : World) (h : CubeAt w b off n B O C B2 O2 C2 f) (h0 : 0 < n) (hn : n ≤ 16) (hf : ∀ i j k, i < n → j < n → k < n → 0 ≤ f i j k ∧ f i j k ≤ 1000) :
    Calls Try.prog 58 #[.agg #[.slice (some ⟨b, off, none⟩) n c]] w (FltRes w (flt n f)) := by
  have H := Lib.hid h
  have HF := Lib.hid hf
  have HF0 := Lib.hid (show ∀ i j, i < n → j < n → 0 ≤ f i j 0 from fun i j hi hj => (hf i j 0 hi hj h0).1)
  clear h hf
  obtain ⟨W, hW⟩ : ∃ W, W = (w.alloc (.cells #[.slice (some ⟨b, off, none⟩) n c] 29)).alloc (.cells #[.func (.func 93) #[.agg #[.slice (some ⟨b, off, none⟩) n c]] #[], .func (.func 94) #[.agg #[.slice (some ⟨b, off, none⟩) n c]] #[], .func (.func 95) #[.agg #[.slice (some ⟨b, off, none⟩) n c]] #[], .func (.func 96) #[.agg #[.slice (some ⟨b, off, none⟩) n c]] #[]] 78) := ⟨_, rfl⟩
  have HW0 := Lib.hid (show Below w.heap.size w W by rw [hW]; exact ((Below.refl _ _).alloc (Nat.le_refl _) _).alloc (by simp) _)
  have HWs := Lib.hid (show W.heap.size = w.heap.size + 2 by rw [hW]; simp)
  have hz : w.heap.size + 1 = (w.alloc (.cells #[.slice (some ⟨b, off, none⟩) n c] 29)).heap.size := by simp
  have c0 : W.cell? ⟨w.heap.size + 1, 0, none⟩ = some (.func (.func 93) #[.agg #[.slice (some ⟨b, off, none⟩) n c]] #[]) := by rw [hW, World.cell?_alloc_at _ _ _ _ hz]; rfl
  have c1 : W.cell? ⟨w.heap.size + 1, 1, none⟩ = some (.func (.func 94) #[.agg #[.slice (some ⟨b, off, none⟩) n c]] #[]) := by rw [hW, World.cell?_alloc_at _ _ _ _ hz]; rfl
  have c2 : W.cell? ⟨w.heap.size + 1, 2, none⟩ = some (.func (.func 95) #[.agg #[.slice (some ⟨b, off, none⟩) n c]] #[]) := by rw [hW, World.cell?_alloc_at _ _ _ _ hz]; rfl
  have c3 : W.cell? ⟨w.heap.size + 1, 3, none⟩ = some (.func (.func 96) #[.agg #[.slice (some ⟨b, off, none⟩) n c]] #[]) := by rw [hW, World.cell?_alloc_at _ _ _ _ hz]; rfl
  have HC0 := Lib.hid c0
  have HC1 := Lib.hid c1
  have HC2 := Lib.hid c2
  have HC3 := Lib.hid c3
  have HWe := Lib.hid hW
  clear hW hz c0 c1 c2 c3
  have qn1 : ∀ w : World, (binOp .neq 26 (.slice none 0 0) (.slice none 0 0)).run Try.prog w = .ok (.bool false) w := fun w => run_neq_slice_nil w 26 2 none 0 0 Try.underlying26
  have qn2 : ∀ (w : World) (g : Addr) (n c : Nat), (binOp .neq 26 (.slice (some g) n c) (.slice none 0 0)).run Try.prog w = .ok (.bool true) w := fun w g n c => run_neq_slice_nil w 26 2 (some g) n c Try.underlying26
  go_enter Try.func58, Try.ntmps58
  go_wp2_with fail
  go_loopw [16] (fun x wr => ∃ q : Nat, q ≤ 4 ∧ x = .int .i64 q ∧ Below W.heap.size W wr ∧ (0 < q → fltU n f = []) ∧ (1 < q → fltD n f = []) ∧ (2 < q → fltT n f = []) ∧ (3 < q → fltS n f = [])) (fun x _ => 4 - (intOf x).toNat)
  case atStart => exact ⟨0, by omega, rfl, by rw [HWe.out]; exact Below.refl _ _, fun h => absurd h (by omega), fun h => absurd h (by omega), fun h => absurd h (by omega), fun h => absurd h (by omega)⟩
  case round =>
    obtain ⟨q, hq, rfl, hbl, hu, hd, ht, hs⟩ := hrel
    have HB := Lib.hid hbl
    have HU := Lib.hid hu
    have HD := Lib.hid hd
    have HTn := Lib.hid ht
    have HS := Lib.hid hs
    have HT := Lib.hid (show Below w.heap.size w wr from HW0.out.trans (hbl.mono (by rw [HWs.out]; omega)))
    clear hbl hu hd ht hs
    have HC := Lib.hid (H.out.below HT.out)
    obtain hq0 | hq0 | hq0 | hq0 | hq0 : q = 0 ∨ q = 1 ∨ q = 2 ∨ q = 3 ∨ q = 4 := by omega
    · subst hq0
      have e1 : wr.cell? ⟨w.heap.size + 1, 0, none⟩ = some _ := (HB.out.cell (p := ⟨w.heap.size + 1, 0, none⟩) (by rw [HWs.out]; show w.heap.size + 1 < _; omega)).trans HC0.out
      have HX := Lib.hid (unitFault_f b off n c B O C B2 O2 C2 f wr HC.out (by omega) h0)
      go_wp2_with fail
      refine HX.out.mono ?_
      intro e w3 hres
      rcases hres with ⟨hl, rfl, hb3⟩ | ⟨hl, g3, c3, rfl, hg3, hr3, hb3⟩
      · have HN := Lib.hid hl
        have HB3 := Lib.hid (HB.out.trans (hb3.mono HB.out.size))
        clear hl hb3 e1 HX
        go_wp2_with fail
        exact ⟨⟨1, by omega, rfl, HB3.out, fun _ => HN.out, fun h => absurd h (by omega), fun h => absurd h (by omega), fun h => absurd h (by omega)⟩, by simp [intOf] <;> omega⟩
      · have HR := Lib.hid (show flt n f = fltU n f from flt_U hl)
        have HL := Lib.hid hl
        have HG := Lib.hid (show w.heap.size ≤ g3 from Nat.le_trans HT.out.size hg3)
        have HQ := Lib.hid hr3
        have HT3 := Lib.hid (HT.out.trans (hb3.mono HT.out.size))
        clear hl hb3 e1 HX hg3 hr3
        obtain ⟨ln, hln⟩ : ∃ ln, ln = (fltU n f).length := ⟨_, rfl⟩
        rw [← hln] at HQ ⊢
        have HLn := Lib.hid hln
        clear hln
        go_wp2_with fail
        go_ret
        rw [HR.out]
        exact Or.inr ⟨HL.out, g3, c3, (by rw [← HLn.out] <;> rfl), HG.out, by rw [← HLn.out]; exact HQ.out, HT3.out⟩
    · subst hq0
      have e1 : wr.cell? ⟨w.heap.size + 1, 1, none⟩ = some _ := (HB.out.cell (p := ⟨w.heap.size + 1, 1, none⟩) (by rw [HWs.out]; show w.heap.size + 1 < _; omega)).trans HC1.out
      have HX := Lib.hid (dualFault_f b off n c B O C B2 O2 C2 f wr HC.out (by omega) HF0.out)
      go_wp2_with fail
      refine HX.out.mono ?_
      intro e w3 hres
      rcases hres with ⟨hl, rfl, hb3⟩ | ⟨hl, g3, c3, rfl, hg3, hr3, hb3⟩
      · have HN := Lib.hid hl
        have HB3 := Lib.hid (HB.out.trans (hb3.mono HB.out.size))
        clear hl hb3 e1 HX
        go_wp2_with fail
        exact ⟨⟨2, by omega, rfl, HB3.out, fun _ => HU.out (by omega), fun _ => HN.out, fun h => absurd h (by omega), fun h => absurd h (by omega)⟩, by simp [intOf] <;> omega⟩
      · have HR := Lib.hid (show flt n f = fltD n f from flt_D (HU.out (by omega)) hl)
        have HL := Lib.hid hl
        have HG := Lib.hid (show w.heap.size ≤ g3 from Nat.le_trans HT.out.size hg3)
        have HQ := Lib.hid hr3
        have HT3 := Lib.hid (HT.out.trans (hb3.mono HT.out.size))
        clear hl hb3 e1 HX hg3 hr3
        obtain ⟨ln, hln⟩ : ∃ ln, ln = (fltD n f).length := ⟨_, rfl⟩
        rw [← hln] at HQ ⊢
        have HLn := Lib.hid hln
        clear hln
        go_wp2_with fail
        go_ret
        rw [HR.out]
        exact Or.inr ⟨HL.out, g3, c3, (by rw [← HLn.out] <;> rfl), HG.out, by rw [← HLn.out]; exact HQ.out, HT3.out⟩
    · subst hq0
      have e1 : wr.cell? ⟨w.heap.size + 1, 2, none⟩ = some _ := (HB.out.cell (p := ⟨w.heap.size + 1, 2, none⟩) (by rw [HWs.out]; show w.heap.size + 1 < _; omega)).trans HC2.out
      have HX := Lib.hid (turnFault_f b off n c B O C B2 O2 C2 f wr HC.out (by omega) HF0.out (db_nonneg (HD.out (by omega))))
      go_wp2_with fail
      refine HX.out.mono ?_
      intro e w3 hres
      rcases hres with ⟨hl, rfl, hb3⟩ | ⟨hl, g3, c3, rfl, hg3, hr3, hb3⟩
      · have HN := Lib.hid hl
        have HB3 := Lib.hid (HB.out.trans (hb3.mono HB.out.size))
        clear hl hb3 e1 HX
        go_wp2_with fail
        exact ⟨⟨3, by omega, rfl, HB3.out, fun _ => HU.out (by omega), fun _ => HD.out (by omega), fun _ => HN.out, fun h => absurd h (by omega)⟩, by simp [intOf] <;> omega⟩
      · have HR := Lib.hid (show flt n f = fltT n f from flt_T (HU.out (by omega)) (HD.out (by omega)) hl)
        have HL := Lib.hid hl
        have HG := Lib.hid (show w.heap.size ≤ g3 from Nat.le_trans HT.out.size hg3)
        have HQ := Lib.hid hr3
        have HT3 := Lib.hid (HT.out.trans (hb3.mono HT.out.size))
        clear hl hb3 e1 HX hg3 hr3
        obtain ⟨ln, hln⟩ : ∃ ln, ln = (fltT n f).length := ⟨_, rfl⟩
        rw [← hln] at HQ ⊢
        have HLn := Lib.hid hln
        clear hln
        go_wp2_with fail
        go_ret
        rw [HR.out]
        exact Or.inr ⟨HL.out, g3, c3, (by rw [← HLn.out] <;> rfl), HG.out, by rw [← HLn.out]; exact HQ.out, HT3.out⟩
    · subst hq0
      have e1 : wr.cell? ⟨w.heap.size + 1, 3, none⟩ = some _ := (HB.out.cell (p := ⟨w.heap.size + 1, 3, none⟩) (by rw [HWs.out]; show w.heap.size + 1 < _; omega)).trans HC3.out
      have HX := Lib.hid (sumFault_f b off n c B O C B2 O2 C2 f wr HC.out hn HF.out)
      go_wp2_with fail
      refine HX.out.mono ?_
      intro e w3 hres
      rcases hres with ⟨hl, rfl, hb3⟩ | ⟨hl, g3, c3, rfl, hg3, hr3, hb3⟩
      · have HN := Lib.hid hl
        have HB3 := Lib.hid (HB.out.trans (hb3.mono HB.out.size))
        clear hl hb3 e1 HX
        go_wp2_with fail
        exact ⟨⟨4, by omega, rfl, HB3.out, fun _ => HU.out (by omega), fun _ => HD.out (by omega), fun _ => HTn.out (by omega), fun _ => HN.out⟩, by simp [intOf] <;> omega⟩
      · have HR := Lib.hid (show flt n f = fltS n f from flt_S (HU.out (by omega)) (HD.out (by omega)) (HTn.out (by omega)))
        have HL := Lib.hid hl
        have HG := Lib.hid (show w.heap.size ≤ g3 from Nat.le_trans HT.out.size hg3)
        have HQ := Lib.hid hr3
        have HT3 := Lib.hid (HT.out.trans (hb3.mono HT.out.size))
        clear hl hb3 e1 HX hg3 hr3
        obtain ⟨ln, hln⟩ : ∃ ln, ln = (fltS n f).length := ⟨_, rfl⟩
        rw [← hln] at HQ ⊢
        have HLn := Lib.hid hln
        clear hln
        go_wp2_with fail
        go_ret
        rw [HR.out]
        exact Or.inr ⟨HL.out, g3, c3, (by rw [← HLn.out] <;> rfl), HG.out, by rw [← HLn.out]; exact HQ.out, HT3.out⟩
    · subst hq0
      have HR := Lib.hid (show flt n f = [] by rw [flt_S (HU.out (by omega)) (HD.out (by omega)) (HTn.out (by omega))]; exact HS.out (by omega))
      go_wp2_with fail
      go_ret
      exact fltRes_none HR.out HT.out
/-- what is a ring -/
def ringB (n : Nat) (M : Nat → Nat) (L : Nat → Nat → Nat) (f : Nat → Nat → Nat → Int) : Bool := cubB n M L f && decide (flt n f = [])
theorem ringB_t {n : Nat} {M : Nat → Nat} {L : Nat → Nat → Nat} {f : Nat → Nat → Nat → Int} (h : ringB n M L f = true) : cubB n M L f = true ∧ flt n f = [] := by simpa [ringB] using h
theorem ringB_no {n : Nat} {M : Nat → Nat} {L : Nat → Nat → Nat} {f : Nat → Nat → Nat → Int} (h : cubB n M L f = false) : ringB n M L f = false := by simp [ringB, h]
theorem ringB_cub {n : Nat} {M : Nat → Nat} {L : Nat → Nat → Nat} {f : Nat → Nat → Nat → Int} (h : cubB n M L f = true) : ringB n M L f = decide (flt n f = []) := by simp [ringB, h]
set_option maxRecDepth 100000 in
theorem implIsRing_f (a : Option Addr) (n c : Nat) (M : Nat → Nat) (L : Nat → Nat → Nat) (f : Nat → Nat → Nat → Int) (w : World) (h : RdT w a n M L f) (hn : n ≤ 1048576) (hM : ∀ i, i < n → M i ≤ 1048576) (hL : ∀ i, i < n → ∀ j, j < M i → L i j ≤ 1048576) :
    Calls Try.prog 33 #[.agg #[.slice a n c]] w (BoolRes w (ringB n M L f)) := by
  have HI := Lib.hid (fun u (hu : Below w.heap.size w u) => isCube_f a n c M L f u (h.below hu (Nat.le_refl _)) (by omega) (fun i hi => Nat.le_trans (hM i hi) (by omega)) (fun i hi j hj => Nat.le_trans (hL i hi j hj) (by omega)))
  clear hM hL
  cases hc : cubB n M L f
  · rw [hc] at HI
    rw [ringB_no hc]
    clear h hc
    have qe1 : ∀ w : World, (binOp .eql 26 (.slice none 0 0) (.slice none 0 0)).run Try.prog w = .ok (.bool true) w := fun w => Lib.run_eql_slice_nil w 26 2 none 0 0 0 0 Try.underlying26
    have qe2 : ∀ (w : World) (g : Addr) (n c : Nat), (binOp .eql 26 (.slice (some g) n c) (.slice none 0 0)).run Try.prog w = .ok (.bool false) w := fun w g n c => Lib.run_eql_slice_nil w 26 2 (some g) n c 0 0 Try.underlying26
    go_enter Try.func33, Try.ntmps33
    go_wp2_with fail
    refine (HI.out _ (below_alloc _ _)).mono ?_
    rintro e w1 ⟨rfl, hb⟩
    have HB := Lib.hid ((below_alloc w (.cells #[.slice a n c] 29)).trans (hb.mono (by simp)))
    clear hb
    go_wp2_with fail
    go_ret
    exact ⟨rfl, HB.out⟩
  · obtain ⟨h0, h16, hf⟩ := cub_num hc
    obtain ⟨b, off, B, O, C, B2, O2, C2, rfl, hat⟩ := cubeAt_of (cub_rd h hc) h0
    have HA := Lib.hid (fun u (hu : Below w.heap.size w u) => fault_f b off n c B O C B2 O2 C2 f u (hat.below hu) h0 h16 hf)
    rw [hc] at HI
    rw [ringB_cub hc]
    clear h hc hat hf
    have qe1 : ∀ w : World, (binOp .eql 26 (.slice none 0 0) (.slice none 0 0)).run Try.prog w = .ok (.bool true) w := fun w => Lib.run_eql_slice_nil w 26 2 none 0 0 0 0 Try.underlying26
    have qe2 : ∀ (w : World) (g : Addr) (n c : Nat), (binOp .eql 26 (.slice (some g) n c) (.slice none 0 0)).run Try.prog w = .ok (.bool false) w := fun w g n c => Lib.run_eql_slice_nil w 26 2 (some g) n c 0 0 Try.underlying26
    go_enter Try.func33, Try.ntmps33
    go_wp2_with fail
    refine (HI.out _ (below_alloc _ _)).mono ?_
    rintro e w1 ⟨rfl, hb⟩
    have HB := Lib.hid ((below_alloc w (.cells #[.slice (some ⟨b, off, none⟩) n c] 29)).trans (hb.mono (by simp)))
    have e0 : w1.cell? ⟨w.heap.size, 0, none⟩ = some (.slice (some ⟨b, off, none⟩) n c) := by
      rw [hb.cell (p := ⟨w.heap.size, 0, none⟩) (by simp)]; exact cell_box _ _ _
    clear hb
    go_wp2_with fail
    refine (HA.out _ HB.out).mono ?_
    intro e w3 hres
    clear e0
    rcases hres with ⟨hl, rfl, hb3⟩ | ⟨hl, g3, c3, rfl, hg3, hr3, hb3⟩
    · have HN := Lib.hid (show true = decide (flt n f = []) by rw [hl]; rfl)
      have HB3 := Lib.hid (HB.out.trans (hb3.mono HB.out.size))
      clear hl hb3
      go_wp2_with fail
      go_ret
      exact ⟨ret_bool HN.out, HB3.out⟩
    · have HN := Lib.hid (show false = decide (flt n f = []) from (decide_eq_false hl).symm)
      have HB3 := Lib.hid (HB.out.trans (hb3.mono HB.out.size))
      clear hl hb3 hg3 hr3
      generalize (flt n f).length = ln at *
      go_wp2_with fail
      go_ret
      exact ⟨ret_bool HN.out, HB3.out⟩
/-- the code of RingFault -/
def cRF (n : Nat) (M : Nat → Nat) (L : Nat → Nat → Nat) (f : Nat → Nat → Nat → Int) : Int := if cubB n M L f then (if flt n f = [] then 4 else 0) else 1
def nRF (n : Nat) (M : Nat → Nat) (L : Nat → Nat → Nat) (f : Nat → Nat → Nat → Int) : Nat := if cubB n M L f then (flt n f).length else 0
theorem rowRes_none {w w' : World} {f : Nat → Int} {n : Nat} {c c' : Int} (hn : n = 0) (hc : c' = c) (hb : Below w.heap.size w w') : RowRes w n f c (.returned (.tuple #[.slice none 0 0, .int .i64 c'])) w' :=
  ⟨none, 0, by rw [hn, hc], Or.inl hn, hb⟩
theorem implRingFault_f_rows (n : Nat) (M : Nat → Nat) (L : Nat → Nat → Nat) (f : Nat → Nat → Nat → Int) : nRF n M L f ≤ 64 := by
  unfold nRF
  have := flt_len n f
  split <;> omega
end Go.Proofs.Ytmdmojklagmmiaa
