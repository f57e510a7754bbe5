/- LeastRing of the specification. -/
import Derived.Test.YtaffiohdjkbkkaaOrs
namespace Go.Proofs.Ytaffiohdjkbkkaa
open Go.RowKit
set_option linter.unusedSimpArgs false
theorem accM_nil (w : World) (T t : TypeId) (L C G : Nat → Nat) (f : Nat → Nat → Int) : AccM w w T t (.slice none 0 0) 0 L C G f :=
  ⟨World.ownsRow_nil _ _ _ _, Below.refl _ _, fun i hi => absurd hi (by omega), fun i j hi => absurd hi (by omega)⟩
theorem row_zero (w : World) : RowI (w.alloc (.cells #[.int .i64 0] 2)) 2 w.heap.size 1 (lF [0]) :=
  (show RowI _ 2 w.heap.size 1 (fun _ => 0) from row_one w (.int .i64 0) 2).congr fun i hi => by
    obtain rfl : i = 0 := by omega
    rfl
def idP (n : Nat) : List Nat := 0 :: List.range' 1 (n - 1)
theorem idP_at {n i : Nat} (hi : i < n) : (idP n).getD i 0 = i := by
  unfold idP
  cases i with
  | zero => rfl
  | succ j => simp [List.getD, show j < n - 1 by omega]; omega
theorem idP_mem {n : Nat} (h1 : 1 ≤ n) (h2 : n ≤ 7) : idP n ∈ per n := by
  obtain ⟨r, hr⟩ := orbit_head 720 (List.range' 1 (n - 1))
  rw [← orbit_per n h1 h2, hr]
  exact List.mem_cons_self
theorem ren_id (n : Nat) (f : Nat → Nat → Nat → Int) : eqT n f (ren f (idP n)) := fun i j k hi hj hk => by
  unfold ren; rw [idP_at hi, idP_at hj, idP_at hk]
theorem isLeast_of {n : Nat} {f : Nat → Nat → Nat → Int} (h1 : 1 ≤ n) (h2 : n ≤ 7) {q : List Nat} (hq : q ∈ per n) (h : ∀ s, s < (per n).length → ¬ ltT n (ren f (invL n ((per n).getD s []))) (ren f q)) : isLeast n f q := by
  refine ⟨hq, fun p hp hlt => ?_⟩
  obtain ⟨s, hs, e⟩ := List.getElem_of_mem (per_inv h1 h2 hp)
  refine h s hs (ltT_cong hlt (fun i j k hi hj hk => ?_) (fun _ _ _ _ _ _ => rfl))
  have e2 : (per n).getD s [] = invL n p := by rw [List.getD_eq_getElem?_getD, List.getElem?_eq_getElem hs]; exact e
  rw [e2]
  unfold ren
  rw [per_inv2 h1 h2 hp i hi, per_inv2 h1 h2 hp j hj, per_inv2 h1 h2 hp k hk]
set_option maxHeartbeats 8000000 in
set_option maxRecDepth 100000 in
theorem l03Least_f (b off n c : Nat) (B O C : Nat → Nat) (B2 O2 C2 : Nat → Nat → Nat) (f : Nat → Nat → Nat → Int) (w : World) (h : CubeAt w b off n B O C B2 O2 C2 f) (h0 : 0 < n) (h7 : n ≤ 7) :
    Calls Try.prog 76 #[.slice (some ⟨b, off, none⟩) n c] w fun e w' => ∃ g cg p, e = .returned (.slice (some ⟨g, 0, none⟩) n cg) ∧ isLeast n f p ∧ CubO w' w.heap.size w'.heap.size g n (fun _ => n) (fun _ _ => n) (ren f p) ∧ Below w.heap.size w w' := by
  have H := Lib.hid h
  clear h
  go_enter Try.func76, Try.ntmps76
  go_wp2_with fail
  refine (l03Own_f _ n c f _ H.out.rd h0 (by omega)).mono ?_
  rintro e w1 ⟨g1, cg1, rfl, hc1, hb1⟩
  have HB1 := Lib.hid hb1
  have HC1 := Lib.hid (cubO_eqT hc1 (ren_id n f))
  clear hb1 hc1
  have HOr := Lib.hid (l03Orders_f n (by omega) (n - 1) [0] [] w1.heap.size 1 (.slice none 0 0) (fun _ => 0) (fun _ => 0) w1 w1 (w1.alloc (.cells #[.int .i64 0] 2)) (by simp; omega) (by simp) (by have := per_len n h0 h7; simp only [List.nil_append]; show (per n).length ≤ 1000; omega) (accM_nil _ _ _ _ _ _ _) (below_alloc _ _) (Nat.le_refl _) (row_zero w1) (Nat.le_refl _) (by unfold maxLen; omega))
  go_wp2_with fail
  refine HOr.out.mono ?_
  rintro e w2 ⟨v2, C3, G3, rfl, hacc, _, _⟩
  have hacc := (show AccM w1 w2 23 2 v2 (per n).length (fun _ => n) C3 G3 (rowF (per n)) from hacc)
  have hlen := per_len n h0 h7
  have hpos : 0 < (per n).length := List.length_pos_of_mem (idP_mem h0 h7)
  obtain ⟨g2, c2, rfl⟩ := hacc.form hpos
  have HRd := Lib.hid hacc.done.2.2.rd
  have HB2 := Lib.hid (HB1.out.trans (hacc.bel.mono HB1.out.size))
  have HC2 := Lib.hid ((HC1.out.below hacc.bel (Nat.le_refl _)).mono (Nat.le_refl _) hacc.bel.size)
  have HMm := Lib.hid (show ∀ s, s < (per n).length → (per n).getD s [] ∈ per n from fun s hs => by
    rw [List.getD_eq_getElem?_getD, List.getElem?_eq_getElem hs]; exact List.getElem_mem hs)
  clear hacc HOr HC1 HB1
  obtain ⟨N, hN⟩ : ∃ N, N = (per n).length := ⟨_, rfl⟩
  rw [← hN] at HRd hlen hpos HMm ⊢
  have HNl := Lib.hid hN
  clear hN
  go_wp2_with fail
  go_loopw [3, 5] (fun bv x wr => ∃ (t g cg : Nat) (q : List Nat), t ≤ N ∧ x = .int .i64 t ∧ bv = .slice (some ⟨g, 0, none⟩) n cg ∧ q ∈ per n ∧ CubO wr w.heap.size wr.heap.size g n (fun _ => n) (fun _ _ => n) (ren f q) ∧ (∀ s, s < t → ¬ ltT n (ren f (invL n ((per n).getD s []))) (ren f q)) ∧ Below w2.heap.size w2 wr) (fun _ x _ => N - (intOf x).toNat)
  case atStart => exact ⟨0, g1, cg1, idP n, by omega, rfl, rfl, idP_mem h0 h7, HC2.out, fun s hs => absurd hs (by omega), Below.refl _ _⟩
  case round =>
    obtain ⟨t, g, cg, q, ht, rfl, rfl, hq, hcub, hmin, hbel⟩ := hrel
    have HQ := Lib.hid hq
    have HC := Lib.hid hcub
    have HM := Lib.hid hmin
    have HB := Lib.hid hbel
    have HT := Lib.hid (HB2.out.trans (hbel.mono HB2.out.size))
    clear hq hcub hmin hbel
    by_cases htN : t < N
    · have HRr := Lib.hid (HRd.out.below HB.out (Nat.le_refl _))
      obtain ⟨b3, o3, A3, C4, e3, l3, c3⟩ := HRr.out.open hpos
      cases e3
      have hrow := c3 t htN
      have e1 := hrow.1
      have HRow := Lib.hid hrow.2
      have HP := Lib.hid (HMm.out t htN)
      obtain ⟨p, hp⟩ : ∃ p, p = (per n).getD t [] := ⟨_, rfl⟩
      have HPe := Lib.hid hp
      have HRow := Lib.hid (show RdR wr (A3 t) n (lF p) from by rw [hp]; exact HRow.out)
      rw [← hp] at HP
      clear hp hrow c3 HRr
      generalize A3 t = a3 at *
      generalize C4 t = c4 at *
      rw [Nat.zero_add] at e1
      have HI := Lib.hid (l03Image_f b off n c B O C B2 O2 C2 f p a3 c4 wr (H.out.below HT.out) HRow.out HP.out h0 h7)
      go_wp2_with fail
      refine HI.out.mono ?_
      rintro e w4 ⟨g4, cg4, rfl, hc4, hb4⟩
      have HC4 := Lib.hid (hc4.mono HT.out.size (Nat.le_refl _))
      have HB4 := Lib.hid (HB.out.trans (hb4.mono HB.out.size))
      have HCb := Lib.hid ((HC.out.below hb4 (Nat.le_refl _)).mono (Nat.le_refl _) hb4.size)
      clear hc4 hb4 e1 HI
      obtain ⟨b5, o5, B5, O5, C5, B6, O6, C6, e5, hat5⟩ := cubeAt_of HC4.out.rd h0
      obtain ⟨b7, o7, B7, O7, C7, B8, O8, C8, e7, hat7⟩ := cubeAt_of HCb.out.rd h0
      cases e5; cases e7
      have HBe := Lib.hid (l03Before_f g4 0 n cg4 B5 O5 C5 B6 O6 C6 (ren f (invL n p)) g 0 cg B7 O7 C7 B8 O8 C8 (ren f q) w4 hat5 hat7 (by omega))
      clear hat5 hat7
      go_wp2_with fail
      refine HBe.out.mono ?_
      rintro e w5 ⟨⟨v, rfl, hv⟩, hd5⟩
      have HV := Lib.hid hv
      have HD := Lib.hid (show Below w4.heap.size w4 w5 from hd5.below)
      have HB5 := Lib.hid (HB4.out.trans (HD.out.mono HB4.out.size))
      have HC5 := Lib.hid ((HC4.out.below HD.out (Nat.le_refl _)).mono (Nat.le_refl _) HD.out.size)
      have HCb5 := Lib.hid ((HCb.out.below HD.out (Nat.le_refl _)).mono (Nat.le_refl _) HD.out.size)
      clear hv hd5 HBe
      cases v
      · have HN := Lib.hid (show ∀ s, s < t + 1 → ¬ ltT n (ren f (invL n ((per n).getD s []))) (ren f q) from fun s hs => by
          by_cases e : s = t
          · rw [e, ← HPe.out]; exact fun h => by have := HV.out.2 h; cases this
          · exact HM.out s (by omega))
        go_wp2_with fail
        exact ⟨⟨t + 1, g, cg, q, by omega, by go_num, rfl, HQ.out, HCb5.out, HN.out, HB5.out⟩, by simp [intOf]; omega⟩
      · have HN := Lib.hid (show ∀ s, s < t + 1 → ¬ ltT n (ren f (invL n ((per n).getD s []))) (ren f (invL n p)) from fun s hs => by
          by_cases e : s = t
          · rw [e, ← HPe.out]; exact eqT_not fun _ _ _ _ _ _ => rfl
          · exact fun h => HM.out s (by omega) (ltT_trans h (HV.out.1 rfl)))
        go_wp2_with fail
        exact ⟨⟨t + 1, g4, cg4, invL n p, by omega, by go_num, rfl, per_inv h0 h7 HP.out, HC5.out, HN.out, HB5.out⟩, by simp [intOf]; omega⟩
    · obtain rfl : t = N := by omega
      have HL := Lib.hid (isLeast_of (f := f) h0 h7 HQ.out (fun s hs => HM.out s (by rw [HNl.out]; exact hs)))
      go_wp2_with fail
      go_ret
      exact ⟨g, cg, q, rfl, HL.out, HC.out, HT.out⟩
set_option maxRecDepth 100000 in
theorem specLeast_f (a : Option Addr) (n c : Nat) (M : Nat → Nat) (L : Nat → Nat → Nat) (f : Nat → Nat → Nat → Int) (w : World) (h : RdT w a n M L f) (hn : n ≤ 1048576) (hM : ∀ i, i < n → M i ≤ 1048576) (hL : ∀ i, i < n → ∀ j, j < M i → L i j ≤ 1048576) :
    Calls Try.prog 35 #[.agg #[.slice a n c]] w (RingRes w (nRg (okLst n M L f) n) (fun _ => n) (fun _ _ => n) (ren f (leastP n f)) (cLst n M L f)) := by
  have HI := Lib.hid (fun u (hu : Below w.heap.size w u) => l03Is_f a n c M L f u (h.below hu (Nat.le_refl _)) hn hM hL)
  clear hM hL
  obtain ⟨W, hW⟩ : ∃ W, W = (w.alloc (.cells #[.slice a n c] 39)).alloc (.cells #[.slice none 0 0] 39) := ⟨_, rfl⟩
  have HW0 := Lib.hid (show Below w.heap.size w W by rw [hW]; exact ((Below.refl _ _).alloc (Nat.le_refl _) _).alloc (by simp) _)
  have HWs := Lib.hid (show W.heap.size = w.heap.size + 2 by rw [hW]; simp)
  have KW := Lib.hid (show W.cell? ⟨w.heap.size, 0, none⟩ = some (.slice a n c) by rw [hW, World.cell?_alloc_lt _ _ _ (by simp)]; exact cell_box _ _ _)
  have KR := Lib.hid (show RowB W 39 (w.heap.size + 1) 1 (fun _ => .slice none 0 0) by
    rw [hW]
    have := row_one (w.alloc (.cells #[.slice a n c] 39)) (.slice none 0 0) 39
    simpa using this)
  have HWe := Lib.hid hW
  clear hW
  cases hr : ringB n M L f
  · rw [hr] at HI
    have HC := Lib.hid (show cLst n M L f = 1 by simp [cLst, hr])
    have HN := Lib.hid (show nRg (okLst n M L f) n = 0 by simp [okLst, hr, nRg])
    rw [HC.out, HN.out]
    clear h hr
    go_enter Try.func35, Try.ntmps35
    go_wp2_with fail
    rw [← HWe.out]
    refine (HI.out _ HW0.out).mono ?_
    rintro e w1 ⟨rfl, hb⟩
    have HB := Lib.hid (HW0.out.trans (hb.mono HW0.out.size))
    have hr := RowB.below KR.out hb (by rw [HWs.out]; omega)
    have e1 := RowB.cell hr (show 0 < 1 by omega)
    have e2 := RowB.frozen hr 0
    have e3 := RowB.cell (hr.set 0 (.slice none 0 0)) (show 0 < 1 by omega)
    rw [if_pos rfl] at e3
    clear hb hr
    go_wp2_with fail
    refine bodyPost_ret (v := .tuple #[.agg #[.slice none 0 0], .int .i64 1]) (by simp [results, Try.results35, go_sem, e3]) rfl ?_
    exact ringRes_none rfl rfl (HB.out.setCell (by show w.heap.size ≤ w.heap.size + 1; omega) _)
  · obtain ⟨h0, h16, hf, hd, b, off, B, O, C, B2, O2, C2, rfl, hat⟩ := ring_open h hr
    have HAt := Lib.hid (fun u (hu : Below w.heap.size w u) => hat.below hu)
    rw [hr] at HI
    by_cases h7 : n ≤ 7
    · have HA := Lib.hid (fun u (hu : Below w.heap.size w u) => l03Least_f b off n c B O C B2 O2 C2 f u (HAt.out u hu) h0 h7)
      have HC := Lib.hid (show cLst n M L f = 0 by simp [cLst, hr, h7])
      have HN := Lib.hid (show nRg (okLst n M L f) n = n by simp [okLst, hr, nRg, h7])
      rw [HC.out, HN.out]
      have hdd : decide ((7 : Int) < (n : Int)) = false := by simp; omega
      clear h hr hat hf hd
      go_enter Try.func35, Try.ntmps35
      go_wp2_with fail
      rw [← HWe.out]
      refine (HI.out _ HW0.out).mono ?_
      rintro e w1 ⟨rfl, hb⟩
      have HB := Lib.hid (HW0.out.trans (hb.mono HW0.out.size))
      have HB0 := Lib.hid hb
      have e0 := (hb.cell (p := ⟨w.heap.size, 0, none⟩) (by rw [HWs.out]; show w.heap.size < _; omega)).trans KW.out
      clear hb
      go_wp2_with fail
      refine (HA.out _ HB.out).mono ?_
      rintro e w3 ⟨g, cg, p, rfl, hl, hc, hb3⟩
      have HB3 := Lib.hid (HB.out.trans (hb3.mono HB.out.size))
      have HC3 := Lib.hid (cubO_eqT hc (leastP_eq hl))
      have hr := RowB.below KR.out (HB0.out.trans (hb3.mono HB0.out.size)) (by rw [HWs.out]; omega)
      have e1 := RowB.cell hr (show 0 < 1 by omega)
      have e2 := RowB.frozen hr 0
      have e3 := RowB.cell (hr.set 0 (.slice (some ⟨g, 0, none⟩) n cg)) (show 0 < 1 by omega)
      rw [if_pos rfl] at e3
      have HO := Lib.hid (show Only (fun q => q = w.heap.size + 1) w3 (w3.setCell ⟨w.heap.size + 1, 0, none⟩ (.slice (some ⟨g, 0, none⟩) n cg)) from (Only.refl (fun q => q = w.heap.size + 1) w3).setCell (p := ⟨w.heap.size + 1, 0, none⟩) rfl _)
      have HL := Lib.hid (show w.heap.size + 2 ≤ w1.heap.size by have := HB0.out.size; have := HWs.out; omega)
      clear hb3 hc e0 hr hl
      go_wp2_with fail
      refine bodyPost_ret (v := .tuple #[.agg #[.slice (some ⟨g, 0, none⟩) n cg], .int .i64 0]) (by simp [results, Try.results35, go_sem, e3]) rfl ?_
      refine ⟨some ⟨g, 0, none⟩, cg, rfl, Or.inr ⟨g, rfl, ?_⟩, HB3.out.setCell (by show w.heap.size ≤ w.heap.size + 1; omega) _⟩
      rw [HO.out.size]
      exact (HC3.out.only HO.out (fun k hk h => by have := HL.out; omega)).mono (by have := HL.out; omega) (Nat.le_refl _)
    · have HC := Lib.hid (show cLst n M L f = 3 by simp [cLst, hr, h7])
      have HN := Lib.hid (show nRg (okLst n M L f) n = 0 by simp [okLst, nRg, h7])
      rw [HC.out, HN.out]
      have hdd : decide ((7 : Int) < (n : Int)) = true := by simp; omega
      clear h hr hat hf hd
      go_enter Try.func35, Try.ntmps35
      go_wp2_with fail
      rw [← HWe.out]
      refine (HI.out _ HW0.out).mono ?_
      rintro e w1 ⟨rfl, hb⟩
      have HB := Lib.hid (HW0.out.trans (hb.mono HW0.out.size))
      have HB0 := Lib.hid hb
      have e0 := (hb.cell (p := ⟨w.heap.size, 0, none⟩) (by rw [HWs.out]; show w.heap.size < _; omega)).trans KW.out
      clear hb
      have hr := RowB.below KR.out HB0.out (by rw [HWs.out]; omega)
      have e1 := RowB.cell hr (show 0 < 1 by omega)
      have e2 := RowB.frozen hr 0
      have e3 := RowB.cell (hr.set 0 (.slice none 0 0)) (show 0 < 1 by omega)
      rw [if_pos rfl] at e3
      clear hr
      go_wp2_with fail
      refine bodyPost_ret (v := .tuple #[.agg #[.slice none 0 0], .int .i64 3]) (by simp [results, Try.results35, go_sem, e3]) rfl ?_
      exact ringRes_none rfl rfl (HB.out.setCell (by show w.heap.size ≤ w.heap.size + 1; omega) _)
end Go.Proofs.Ytaffiohdjkbkkaa
