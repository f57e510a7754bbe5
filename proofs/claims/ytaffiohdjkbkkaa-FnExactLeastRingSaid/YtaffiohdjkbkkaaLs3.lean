/- LeastRing of the program. -/
import Derived.Test.YtaffiohdjkbkkaaLs2
namespace Go.Proofs.Ytaffiohdjkbkkaa
open Go.RowKit
set_option linter.unusedSimpArgs false
def okLst (n : Nat) (M : Nat → Nat) (L : Nat → Nat → Nat) (f : Nat → Nat → Nat → Int) : Bool := ringB n M L f && decide (n ≤ 7)
def cLst (n : Nat) (M : Nat → Nat) (L : Nat → Nat → Nat) (f : Nat → Nat → Nat → Int) : Int := if ringB n M L f then (if n ≤ 7 then 0 else 3) else 1
theorem cubO_eqT {w : World} {lo hi b n : Nat} {F G : Nat → Nat → Nat → Int} (h : CubO w lo hi b n (fun _ => n) (fun _ _ => n) F) (e : eqT n F G) : CubO w lo hi b n (fun _ => n) (fun _ _ => n) G := by
  obtain ⟨C, B, CC, GG, h⟩ := h
  exact ⟨C, B, CC, GG, h.cong fun i hi j hj k hk => e i j k hi hj hk⟩
set_option maxRecDepth 100000 in
theorem implLeast_f (a : Option Addr) (n c : Nat) (M : Nat → Nat) (L : Nat → Nat → Nat) (f : Nat → Nat → Nat → Int) (w : World) (h : RdT w a n M L f) (hn : n ≤ 1048576) (hM : ∀ i, i < n → M i ≤ 1048576) (hL : ∀ i, i < n → ∀ j, j < M i → L i j ≤ 1048576) :
    Calls Try.prog 36 #[.agg #[.slice a n c]] w (RingRes w (nRg (okLst n M L f) n) (fun _ => n) (fun _ _ => n) (ren f (leastP n f)) (cLst n M L f)) := by
  have HI := Lib.hid (fun u (hu : Below w.heap.size w u) => implIsRing_f a n c M L f u (h.below hu (Nat.le_refl _)) hn hM hL)
  clear hM hL
  obtain ⟨W, hW⟩ : ∃ W, W = (w.alloc (.cells #[.slice a n c] 39)).alloc (.cells #[.slice none 0 0] 39) := ⟨_, rfl⟩
  have HW0 := Lib.hid (show Below w.heap.size w W by rw [hW]; exact ((Below.refl _ _).alloc (Nat.le_refl _) _).alloc (by simp) _)
  have HWs := Lib.hid (show W.heap.size = w.heap.size + 2 by rw [hW]; simp)
  have KW := Lib.hid (show W.cell? ⟨w.heap.size, 0, none⟩ = some (.slice a n c) by rw [hW, World.cell?_alloc_lt _ _ _ (by simp)]; exact cell_box _ _ _)
  have KR := Lib.hid (show RowB W 39 (w.heap.size + 1) 1 (fun _ => .slice none 0 0) by
    rw [hW]
    have := row_one (w.alloc (.cells #[.slice a n c] 39)) (.slice none 0 0) 39
    simpa using this)
  have HWe := Lib.hid hW
  clear hW
  cases hr : ringB n M L f
  · rw [hr] at HI
    have HC := Lib.hid (show cLst n M L f = 1 by simp [cLst, hr])
    have HN := Lib.hid (show nRg (okLst n M L f) n = 0 by simp [okLst, hr, nRg])
    rw [HC.out, HN.out]
    clear h hr
    go_enter Try.func36, Try.ntmps36
    go_wp2_with fail
    rw [← HWe.out]
    refine (HI.out _ HW0.out).mono ?_
    rintro e w1 ⟨rfl, hb⟩
    have HB := Lib.hid (HW0.out.trans (hb.mono HW0.out.size))
    have hr := RowB.below KR.out hb (by rw [HWs.out]; omega)
    have e1 := RowB.cell hr (show 0 < 1 by omega)
    have e2 := RowB.frozen hr 0
    have e3 := RowB.cell (hr.set 0 (.slice none 0 0)) (show 0 < 1 by omega)
    rw [if_pos rfl] at e3
    clear hb hr
    go_wp2_with fail
    refine bodyPost_ret (v := .tuple #[.agg #[.slice none 0 0], .int .i64 1]) (by simp [results, Try.results36, go_sem, e3]) rfl ?_
    exact ringRes_none rfl rfl (HB.out.setCell (by show w.heap.size ≤ w.heap.size + 1; omega) _)
  · obtain ⟨h0, h16, hf, hd, b, off, B, O, C, B2, O2, C2, rfl, hat⟩ := ring_open h hr
    have HAt := Lib.hid (fun u (hu : Below w.heap.size w u) => hat.below hu)
    rw [hr] at HI
    by_cases h7 : n ≤ 7
    · have HA := Lib.hid (fun u (hu : Below w.heap.size w u) => least_f b off n c B O C B2 O2 C2 f u (HAt.out u hu) h0 h7)
      have HC := Lib.hid (show cLst n M L f = 0 by simp [cLst, hr, h7])
      have HN := Lib.hid (show nRg (okLst n M L f) n = n by simp [okLst, hr, nRg, h7])
      rw [HC.out, HN.out]
      have hdd : decide ((7 : Int) < (n : Int)) = false := by simp; omega
      clear h hr hat hf hd
      go_enter Try.func36, Try.ntmps36
      go_wp2_with fail
      rw [← HWe.out]
      refine (HI.out _ HW0.out).mono ?_
      rintro e w1 ⟨rfl, hb⟩
      have HB := Lib.hid (HW0.out.trans (hb.mono HW0.out.size))
      have HB0 := Lib.hid hb
      have e0 := (hb.cell (p := ⟨w.heap.size, 0, none⟩) (by rw [HWs.out]; show w.heap.size < _; omega)).trans KW.out
      clear hb
      go_wp2_with fail
      refine (rank_f _ n c _).mono ?_
      rintro e w2 ⟨rfl, hb⟩
      have HB1 := Lib.hid (HB.out.trans (hb.mono HB.out.size))
      have HB2 := Lib.hid (HB0.out.trans (hb.mono HB0.out.size))
      clear hb e0
      have e0 := (HB2.out.cell (p := ⟨w.heap.size, 0, none⟩) (by rw [HWs.out]; show w.heap.size < _; omega)).trans KW.out
      go_wp2_with fail
      refine (HA.out _ HB1.out).mono ?_
      rintro e w3 ⟨g, p, rfl, hl, hc, hb3⟩
      have HB3 := Lib.hid (HB1.out.trans (hb3.mono HB1.out.size))
      have HC3 := Lib.hid (cubO_eqT hc (leastP_eq hl))
      have hr := RowB.below KR.out (HB2.out.trans (hb3.mono HB2.out.size)) (by rw [HWs.out]; omega)
      have e1 := RowB.cell hr (show 0 < 1 by omega)
      have e2 := RowB.frozen hr 0
      have e3 := RowB.cell (hr.set 0 (.slice (some ⟨g, 0, none⟩) n n)) (show 0 < 1 by omega)
      rw [if_pos rfl] at e3
      have HO := Lib.hid (show Only (fun q => q = w.heap.size + 1) w3 (w3.setCell ⟨w.heap.size + 1, 0, none⟩ (.slice (some ⟨g, 0, none⟩) n n)) from (Only.refl (fun q => q = w.heap.size + 1) w3).setCell (p := ⟨w.heap.size + 1, 0, none⟩) rfl _)
      have HL := Lib.hid (show w.heap.size + 2 ≤ w2.heap.size by have := HB2.out.size; have := HWs.out; omega)
      clear hb3 hc e0 hr hl
      go_wp2_with fail
      refine bodyPost_ret (v := .tuple #[.agg #[.slice (some ⟨g, 0, none⟩) n n], .int .i64 0]) (by simp [results, Try.results36, go_sem, e3]) rfl ?_
      refine ⟨some ⟨g, 0, none⟩, n, rfl, Or.inr ⟨g, rfl, ?_⟩, HB3.out.setCell (by show w.heap.size ≤ w.heap.size + 1; omega) _⟩
      rw [HO.out.size]
      exact (HC3.out.only HO.out (fun k hk h => by have := HL.out; omega)).mono (by have := HL.out; omega) (Nat.le_refl _)
    · have HC := Lib.hid (show cLst n M L f = 3 by simp [cLst, hr, h7])
      have HN := Lib.hid (show nRg (okLst n M L f) n = 0 by simp [okLst, nRg, h7])
      rw [HC.out, HN.out]
      have hdd : decide ((7 : Int) < (n : Int)) = true := by simp; omega
      clear h hr hat hf hd
      go_enter Try.func36, Try.ntmps36
      go_wp2_with fail
      rw [← HWe.out]
      refine (HI.out _ HW0.out).mono ?_
      rintro e w1 ⟨rfl, hb⟩
      have HB := Lib.hid (HW0.out.trans (hb.mono HW0.out.size))
      have HB0 := Lib.hid hb
      have e0 := (hb.cell (p := ⟨w.heap.size, 0, none⟩) (by rw [HWs.out]; show w.heap.size < _; omega)).trans KW.out
      clear hb
      go_wp2_with fail
      refine (rank_f _ n c _).mono ?_
      rintro e w2 ⟨rfl, hb⟩
      have HB1 := Lib.hid (HB.out.trans (hb.mono HB.out.size))
      have hr := RowB.below KR.out (HB0.out.trans (hb.mono HB0.out.size)) (by rw [HWs.out]; omega)
      have e1 := RowB.cell hr (show 0 < 1 by omega)
      have e2 := RowB.frozen hr 0
      have e3 := RowB.cell (hr.set 0 (.slice none 0 0)) (show 0 < 1 by omega)
      rw [if_pos rfl] at e3
      clear hb e0 hr
      go_wp2_with fail
      refine bodyPost_ret (v := .tuple #[.agg #[.slice none 0 0], .int .i64 3]) (by simp [results, Try.results36, go_sem, e3]) rfl ?_
      exact ringRes_none rfl rfl (HB1.out.setCell (by show w.heap.size ≤ w.heap.size + 1; omega) _)
theorem implLeast_f_rows (n : Nat) (M : Nat → Nat) (L : Nat → Nat → Nat) (f : Nat → Nat → Nat → Int) : nRg (okLst n M L f) n ≤ 64 := by
  unfold nRg okLst
  split
  · rename_i h; simp at h; omega
  · omega
theorem implLeast_f_cols (n : Nat) (M : Nat → Nat) (L : Nat → Nat → Nat) (f : Nat → Nat → Nat → Int) : ∀ i, i < nRg (okLst n M L f) n → n ≤ 64 := fun i hi => by
  unfold nRg okLst at hi
  split at hi
  · rename_i h; simp at h; omega
  · omega
theorem implLeast_f_deep (n : Nat) (M : Nat → Nat) (L : Nat → Nat → Nat) (f : Nat → Nat → Nat → Int) : ∀ i, i < nRg (okLst n M L f) n → ∀ j, j < n → n ≤ 64 := fun i hi _ _ => implLeast_f_cols n M L f i hi
end Go.Proofs.Ytaffiohdjkbkkaa
