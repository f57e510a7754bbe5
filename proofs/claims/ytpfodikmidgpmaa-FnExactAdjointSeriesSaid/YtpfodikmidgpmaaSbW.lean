/- The ring of a subring: of the specification. -/
import Derived.Test.YtpfodikmidgpmaaSbT
import Derived.Test.YtpfodikmidgpmaaOpS
namespace Go.Proofs.Ytpfodikmidgpmaa
open Go.RowKit
set_option linter.unusedSimpArgs false
set_option linter.unusedVariables false
/-- the j-th label of a set -/
def lN (s j : Nat) : Nat := (lbl s).getD j 0
theorem lN_at {s q : Nat} (hq : q < 16) (h : s.testBit q = true) : lN s (lbM s q).length = q := by
  have hpre := lbM_pre s (q + 1) (16 - (q + 1))
  rw [show q + 1 + (16 - (q + 1)) = 16 by omega, lbM_yes h] at hpre
  obtain ⟨r, hr⟩ := hpre
  unfold lN lbl
  rw [← hr, List.append_assoc, List.getD_eq_getElem?_getD, List.getElem?_append_right (Nat.le_refl _)]
  simp
theorem lN_mem {s j : Nat} (hs : s < 65536) (hj : j < (lbl s).length) : s.testBit (lN s j) = true := by
  refine (mem_lbl hs).1 ?_
  unfold lN
  rw [List.getD_eq_getElem?_getD, List.getElem?_eq_getElem hj]
  exact List.getElem_mem hj
set_option maxRecDepth 100000 in
theorem l05Labels_f (a : Option Addr) (n c s : Nat) (w : World) (h16 : n ≤ 16) (hs : s < 2 ^ n) :
    Calls Try.prog 96 #[.agg #[.slice a n c], .int .i64 s] w fun e w' => ∃ g cg, e = .returned (.slice (some ⟨g, 0, none⟩) (lbl s).length cg) ∧ w.heap.size ≤ g ∧ RowI w' 2 g (lbl s).length (fun j => (lN s j : Nat)) ∧ Below w.heap.size w w' := by
  have hp := pow_le16 h16
  have hs6 : s < 65536 := by omega
  have HTop := Lib.hid (lbM_top hs h16)
  obtain ⟨W, hW⟩ : ∃ W, W = w.alloc (.cells #[.slice a n c] 28) := ⟨_, rfl⟩
  have HWe := Lib.hid hW
  have HWs := Lib.hid (show W.heap.size = w.heap.size + 1 by rw [hW]; simp)
  have HB := Lib.hid (show Below w.heap.size w W by rw [hW]; exact below_alloc w _)
  have E0 := Lib.hid (show W.cell? ⟨w.heap.size, 0, none⟩ = some (.slice a n c) by rw [hW]; exact cell_box _ _ _)
  have HBit := Lib.hid (fun i (hi : i < n) => l05Bit_f s i hs6 (by omega))
  have HA0 := Lib.hid (show Acc W (W.alloc (.cells #[] 2)) 2 (.slice (some ⟨w.heap.size + 1, 0, none⟩) 0 0) 0 (fun j => (lN s j : Nat)) by
    have ha := Acc.start W 2 (fun j => (lN s j : Nat))
    rw [HWs.out] at ha
    exact ha)
  clear hW
  go_enter Try.func96, Try.ntmps96
  go_wp2_with fail
  rw [← HWe.out]
  go_loopw [5, 6] (fun v x wr => ∃ (q g cg : Nat), q ≤ n ∧ x = .int .i64 q ∧ v = .slice (some ⟨g, 0, none⟩) (lbM s q).length cg ∧ Acc W wr 2 (.slice (some ⟨g, 0, none⟩) (lbM s q).length cg) (lbM s q).length (fun j => (lN s j : Nat))) (fun _ x _ => n - (intOf x).toNat)
  case atStart => exact ⟨0, _, _, by omega, rfl, rfl, HA0.out⟩
  case round =>
    obtain ⟨q, g, cg, hq, rfl, rfl, hacc⟩ := hrel
    have HA := Lib.hid hacc
    clear hacc
    have hsw : w.heap.size < W.heap.size := by rw [HWs.out]; omega
    have e0 : wr.cell? ⟨w.heap.size, 0, none⟩ = some (.slice a n c) := (HA.out.bel.cell (p := ⟨w.heap.size, 0, none⟩) hsw).trans E0.out
    have hlq := lbM_len s q
    by_cases hqn : q < n
    · have HD := Lib.hid (HBit.out q hqn)
      cases hb : s.testBit q
      · have HN := Lib.hid (lbM_no hb)
        rw [hb] at HD
        clear hb
        go_wp2_with (go_at_call 103; refine (HD.out _).mono ?_; rintro e w1 ⟨rfl, rfl⟩)
        exact ⟨⟨q + 1, g, cg, by omega, by go_num, by rw [HN.out], by rw [HN.out]; exact HA.out⟩, by simp [intOf]; omega⟩
      · have HN2 := Lib.hid (show (lbM s (q + 1)).length = (lbM s q).length + 1 by rw [lbM_yes hb]; simp)
        have HF := Lib.hid (show ((lN s (lbM s q).length : Nat) : Int) = (q : Int) by rw [lN_at (by omega) hb])
        rw [hb] at HD
        clear hb
        have hsz := HA.out.bel.size
        obtain ⟨l, hl⟩ : ∃ l, l = (lbM s q).length := ⟨_, rfl⟩
        rw [← hl] at HA HN2 HF hlq ⊢
        clear hl
        go_wp2_with first | (go_at_call 103; refine (HD.out _).mono ?_; rintro e w1 ⟨rfl, rfl⟩) | (at_builtin; refine push64 _ rfl _ _ rfl W.heap.size _ l _ rfl (HA.out.own.alloc _) ⟨_, 0, none⟩ (q : Int) rfl (cell_one_new _ _ _) (by omega) (by simp; omega) ?_; intro g3 c3 w3 hown3 hgr3)
        have HP := Lib.hid (HA.out.push _ HF.out hown3 hgr3)
        clear hown3 hgr3
        go_wp2_with fail
        exact ⟨⟨q + 1, g3, c3, by omega, by go_num, by rw [HN2.out], by rw [HN2.out]; exact HP.out⟩, by simp [intOf]; omega⟩
    · obtain rfl : n = q := by omega
      obtain ⟨hg, hcg1, hcg2, hrow⟩ := HA.out.done
      rw [HTop.out] at hrow ⊢
      have HRw := Lib.hid hrow
      have HG := Lib.hid (show w.heap.size ≤ g from by rw [HWs.out] at hg; omega)
      have HT := Lib.hid (HB.out.trans (HA.out.bel.mono HB.out.size))
      clear hrow hg HA
      go_wp2_with fail
      go_ret
      exact ⟨g, cg, rfl, HG.out, HRw.out, HT.out⟩
theorem setCell_size (w : World) (a : Addr) (u : Value) : (w.setCell a u).heap.size = w.heap.size := by
  show (w.heap.modify _ _).size = _
  rw [Array.size_modify]
theorem below_both {w0 w : World} (h : Below w0.heap.size w0 w) (a : Addr) (u : Value) : Below w0.heap.size (w0.setCell a u) (w.setCell a u) := by
  refine ⟨h.os, h.tape, h.output, by rw [setCell_size, setCell_size]; exact h.size, fun k hk => ?_⟩
  by_cases e : k = a.block
  · subst e
    have e1 := h.block _ hk
    show (w.heap.modify _ _)[a.block]? = (w0.heap.modify _ _)[a.block]?
    have hk2 : a.block < w.heap.size := Nat.lt_of_lt_of_le hk h.size
    rw [Array.getElem?_eq_getElem (by rw [Array.size_modify]; exact hk2), Array.getElem?_eq_getElem (by rw [Array.size_modify]; exact hk), Array.getElem_modify_self, Array.getElem_modify_self]
    rw [Array.getElem?_eq_getElem hk2, Array.getElem?_eq_getElem hk] at e1
    rw [Option.some.inj e1]
  · exact (Below.heap_setCell w a u k e).trans ((h.block k hk).trans (Below.heap_setCell w0 a u k e).symm)
theorem matB_setOther {w : World} {T t : TypeId} {lo b n : Nat} {L C G : Nat → Nat} {f : Nat → Nat → Int} (h : MatB w T t lo b n L C G f) {a : Addr} (ha : a.block < lo) (u : Value) : MatB (w.setCell a u) T t lo b n L C G f :=
  ⟨h.hlo, RowB.setOther h.outer (by have := h.hlo; omega) u, fun i hi => ⟨(h.row i hi).1, (h.row i hi).2.1, (h.row i hi).2.2.1, RowB.setOther (h.row i hi).2.2.2 (by have := (h.row i hi).1; omega) u⟩, h.apart⟩
/-- a cell below all that is built is written, in both worlds -/
theorem AccT.base {w0 w : World} {v : Value} {n : Nat} {M : Nat → Nat} {L : Nat → Nat → Nat} {C B : Nat → Nat} {CC G : Nat → Nat → Nat} {f : Nat → Nat → Nat → Int} (h : AccT w0 w v n M L C B CC G f) {a : Addr} (ha : a.block < w0.heap.size) (u : Value) : AccT (w0.setCell a u) (w.setCell a u) v n M L C B CC G f := by
  have hz := setCell_size w0 a u
  refine ⟨?_, ?_, fun i hi => ?_, h.apart⟩
  · rw [hz]; exact ownsRow_setCell_below h.own ha u
  · rw [hz]; exact below_both h.bel a u
  · rw [hz]
    obtain ⟨a1, a2, a3⟩ := h.row i hi
    exact ⟨a1, a2, matB_setOther a3 ha u⟩
/-- what stays while the ring of a subring is made: the ring, the labels, and the variable with what is made -/
structure RgB (w w1 wb : World) (b off n c gl m : Nat) (l : Nat → Int) (v : Value) : Prop where
  sz : wb.heap.size = w1.heap.size + 1
  bel : Below w.heap.size w wb
  r : wb.cell? ⟨w.heap.size, 0, none⟩ = some (.slice (some ⟨b, off, none⟩) n c)
  lb : RowI wb 2 gl m l
  o : RowB wb 28 w1.heap.size 1 (fun _ => v)
  z : RowB wb 28 (w.heap.size + 1) 1 (fun _ => .slice none 0 0)
theorem RgB.store {w w1 wb : World} {b off n c gl m : Nat} {l : Nat → Int} {v : Value} (h : RgB w w1 wb b off n c gl m l v) (h1 : w.heap.size + 2 ≤ w1.heap.size) (h2 : gl < w1.heap.size) (v' : Value) : RgB w w1 (wb.setCell ⟨w1.heap.size, 0, none⟩ v') b off n c gl m l v' := by
  refine ⟨by rw [setCell_size]; exact h.sz, h.bel.setCell (p := ⟨w1.heap.size, 0, none⟩) (by show w.heap.size ≤ w1.heap.size; omega) v', ?_, RowB.setOther h.lb (by show gl ≠ w1.heap.size; omega) _, (h.o.set 0 v').congr fun i hi => by rw [if_pos (by omega)], RowB.setOther h.z (by show w.heap.size + 1 ≠ w1.heap.size; omega) _⟩
  rw [World.cell?_of_block (Below.heap_setCell wb ⟨w1.heap.size, 0, none⟩ v' w.heap.size (by show w.heap.size ≠ w1.heap.size; omega))]
  exact h.r
set_option maxRecDepth 100000 in
set_option maxHeartbeats 4000000 in
theorem l05Ring_f (b off n c : Nat) (B O C : Nat → Nat) (B2 O2 C2 : Nat → Nat → Nat) (f : Nat → Nat → Nat → Int) (s : Nat) (w : World) (h : CubeAt w b off n B O C B2 O2 C2 f) (h16 : n ≤ 16) (hs : s < 2 ^ n) (hm0 : 0 < (lbl s).length) :
    Calls Try.prog 63 #[.agg #[.slice (some ⟨b, off, none⟩) n c], .int .i64 s] w fun e w' => ∃ g cg, e = .returned (.agg #[.slice (some ⟨g, 0, none⟩) (lbl s).length cg]) ∧ CubO w' w.heap.size w'.heap.size g (lbl s).length (fun _ => (lbl s).length) (fun _ _ => (lbl s).length) (fun i j k => f (lN s i) (lN s j) (lN s k)) ∧ Below w.heap.size w w' := by
  have hp := pow_le16 h16
  have hs6 : s < 65536 := by omega
  have hm16 : (lbl s).length ≤ 16 := lbM_len s 16
  have HLt := Lib.hid (fun j (hj : j < (lbl s).length) => bit_lt hs (lN_mem hs6 hj))
  obtain ⟨W, hW⟩ : ∃ W, W = (w.alloc (.cells #[.slice (some ⟨b, off, none⟩) n c] 28)).alloc (.cells #[.slice none 0 0] 28) := ⟨_, rfl⟩
  have HWe := Lib.hid hW
  have HWs := Lib.hid (show W.heap.size = w.heap.size + 2 by rw [hW]; simp)
  have HB := Lib.hid (show Below w.heap.size w W by rw [hW]; exact ((Below.refl _ _).alloc (Nat.le_refl _) _).alloc (by simp) _)
  have E0 := Lib.hid (show W.cell? ⟨w.heap.size, 0, none⟩ = some (.slice (some ⟨b, off, none⟩) n c) by rw [hW, World.cell?_alloc_lt _ _ _ (by simp)]; exact cell_box _ _ _)
  have R0 := Lib.hid (show RowB W 28 (w.heap.size + 1) 1 (fun _ => .slice none 0 0) by
    rw [hW]
    have := row_one (w.alloc (.cells #[.slice (some ⟨b, off, none⟩) n c] 28)) (.slice none 0 0) 28
    simpa using this)
  have e0 := E0.out
  rw [hW] at e0
  have HC := Lib.hid h
  clear hW h
  have HLb := Lib.hid (fun u => l05Labels_f (some ⟨b, off, none⟩) n c s u h16 hs)
  obtain ⟨m, hm⟩ : ∃ m, m = (lbl s).length := ⟨_, rfl⟩
  rw [← hm] at hm0 hm16 HLt HLb ⊢
  clear hm
  go_enter Try.func63, Try.ntmps63
  go_wp2_with fail
  rw [← HWe.out]
  clear e0
  refine (HLb.out _).mono ?_
  rintro e w1 ⟨gl, cl, rfl, hgl, hrow, hb1⟩
  have HRl := Lib.hid hrow
  have HGl := Lib.hid hgl
  have HB1 := Lib.hid hb1
  clear hrow hgl hb1
  have hl1 : w.heap.size + 2 ≤ w1.heap.size := by have := HB1.out.size; rw [HWs.out] at this; exact this
  have hl2 : gl < w1.heap.size := RowB.lt HRl.out
  have hl3 : w.heap.size + 2 ≤ gl := by have := HGl.out; rw [HWs.out] at this; exact this
  have hcn := cell_box w1 (.slice none 0 0) 28
  have HG0 := Lib.hid (show RgB w w1 (w1.alloc (.cells #[.slice none 0 0] 28)) b off n c gl m (fun j => (lN s j : Nat)) (.slice none 0 0) from
    ⟨by simp, (HB.out.trans (HB1.out.mono HB.out.size)).alloc (by omega) _, by
      rw [World.cell?_alloc_lt _ _ ⟨w.heap.size, 0, none⟩ (by show w.heap.size < w1.heap.size; omega), HB1.out.cell (p := ⟨w.heap.size, 0, none⟩) (by rw [HWs.out]; show w.heap.size < _; omega)]; exact E0.out,
      RowB.alloc HRl.out _, row_one _ _ _, (RowB.below R0.out HB1.out (by rw [HWs.out]; omega)).alloc _⟩)
  go_wp2_with fail
  clear hcn
  obtain ⟨F, hF⟩ : ∃ F : Nat → Nat → Nat → Int, F = fun i j k => f (lN s i) (lN s j) (lN s k) := ⟨_, rfl⟩
  have HF := Lib.hid hF
  clear hF
  go_loopw [7] (fun x wr => ∃ (q : Nat) (wb : World) (p : Option Addr) (cq : Nat) (C' B' : Nat → Nat) (CC G' : Nat → Nat → Nat), q ≤ m ∧ x = .int .i64 q ∧ AccT wb wr (.slice p q cq) q (fun _ => m) (fun _ _ => m) C' B' CC G' F ∧ RgB w w1 wb b off n c gl m (fun j => (lN s j : Nat)) (.slice p q cq)) (fun x _ => m - (intOf x).toNat)
  case atStart =>
    have hz : ∀ wb : World, AccT wb wb (.slice none 0 0) 0 (fun _ => m) (fun _ _ => m) (fun _ => 0) (fun _ => 0) (fun _ _ => 0) (fun _ _ => 0) F := fun wb => ⟨World.ownsRow_nil _ _ _ _, Below.refl _ _, fun i hi => absurd hi (by omega), fun i j hi => absurd hi (by omega)⟩
    first
      | exact ⟨0, _, none, 0, fun _ => 0, fun _ => 0, fun _ _ => 0, fun _ _ => 0, by omega, rfl, hz _, HG0.out⟩
      | exact ⟨0, _, none, 0, fun _ => 0, fun _ => 0, fun _ _ => 0, fun _ _ => 0, by omega, rfl, hz _, HG0.out.store hl1 hl2 _⟩
  case round =>
    obtain ⟨q, wb, p, cq, C', B', CC, G', hq, rfl, hacc, hrg⟩ := hrel
    have HA := Lib.hid hacc
    have HG := Lib.hid hrg
    clear hacc hrg HG0
    by_cases hqm : q < m
    · go_wp2_with fail
      obtain ⟨wo, hwo⟩ : ∃ u, u = wr := ⟨_, rfl⟩
      subst hwo
      have HM0 := Lib.hid (AccM.start wo 32 2 (fun _ => m) (fun _ => 0) (fun _ => 0) (F q))
      go_loopw [8, 9] (fun v x wv => ∃ (j g cg : Nat) (C3 G3 : Nat → Nat), j ≤ m ∧ x = .int .i64 j ∧ v = .slice (some ⟨g, 0, none⟩) j cg ∧ AccM wo wv 32 2 (.slice (some ⟨g, 0, none⟩) j cg) j (fun _ => m) C3 G3 (F q)) (fun _ x _ => m - (intOf x).toNat)
      case atStart => exact ⟨0, _, _, _, _, by omega, rfl, rfl, HM0.out⟩
      case round =>
        obtain ⟨j, gm, cm, C3, G3, hj, rfl, rfl, hacc⟩ := hrel
        have HM := Lib.hid hacc
        clear hacc HM0
        by_cases hjm : j < m
        · go_wp2_with fail
          obtain ⟨wm, hwm⟩ : ∃ u, u = wr := ⟨_, rfl⟩
          subst hwm
          have HR0 := Lib.hid (Acc.start wm 2 (F q j))
          go_loopw [10, 11] (fun v x wv => ∃ (k g cg : Nat), k ≤ m ∧ x = .int .i64 k ∧ v = .slice (some ⟨g, 0, none⟩) k cg ∧ Acc wm wv 2 (.slice (some ⟨g, 0, none⟩) k cg) k (F q j)) (fun _ x _ => m - (intOf x).toNat)
          case atStart => exact ⟨0, _, _, by omega, rfl, rfl, HR0.out⟩
          case round =>
            obtain ⟨k, gr, cr, hk, rfl, rfl, hacc⟩ := hrel
            have HR := Lib.hid hacc
            clear hacc HR0
            by_cases hkm : k < m
            · have HBm := Lib.hid (HM.out.bel.trans (HR.out.bel.mono HM.out.bel.size))
              have HBb := Lib.hid (HA.out.bel.trans (HBm.out.mono HA.out.bel.size))
              have HBw := Lib.hid (HG.out.bel.trans (HBb.out.mono HG.out.bel.size))
              have hlb := RowI.below HG.out.lb HBb.out (RowB.lt HG.out.lb)
              have hbz := HG.out.sz
              have e0 : wr.cell? ⟨w.heap.size, 0, none⟩ = some (.slice (some ⟨b, off, none⟩) n c) := (HBb.out.cell (p := ⟨w.heap.size, 0, none⟩) (by show w.heap.size < wb.heap.size; omega)).trans HG.out.r
              have l1 : wr.cell? ⟨gl, q, none⟩ = some (.int .i64 (lN s q : Nat)) := RowB.cell hlb hqm
              have l2 : wr.cell? ⟨gl, j, none⟩ = some (.int .i64 (lN s j : Nat)) := RowB.cell hlb hjm
              have l3 : wr.cell? ⟨gl, k, none⟩ = some (.int .i64 (lN s k : Nat)) := RowB.cell hlb hkm
              have n1 := HLt.out q hqm
              have n2 := HLt.out j hjm
              have n3 := HLt.out k hkm
              have hcu := HC.out.below HBw.out
              have c1 := (hcu.row _ n1).1
              have c2 := (hcu.col _ _ n1 n2).1
              have c3 := hcu.num _ _ _ n1 n2 n3
              have HFx := Lib.hid (show F q j k = f (lN s q) (lN s j) (lN s k) by rw [HF.out])
              clear hlb hcu
              generalize lN s q = xq at *
              generalize lN s j = xj at *
              generalize lN s k = xk at *
              generalize B xq = b1 at *
              generalize O xq = o1 at *
              generalize C xq = c1' at *
              generalize B2 xq xj = b2 at *
              generalize O2 xq xj = o2 at *
              generalize C2 xq xj = c2' at *
              generalize f xq xj xk = y at *
              go_wp2_with fail
              refine wp_region_any (by kernel_rfl) ?_
              refine wpAny_take (i := 0) (v := ?va1) rfl (by kernel_rfl) (by kernel_rfl) (by kernel_rfl) (fun _ _ _ h => h) (Or.inl ⟨by rfl, ?hya1⟩) ?_
              case hya1 => intro w; go_simp; try rfl
              refine wpAny_still_tail 1 21 (by kernel_rfl) (by kernel_rfl) ?_
              simp only [List.take_succ_cons, List.take_zero, List.drop_succ_cons, List.drop_zero]
              repeat still_step
              refine wpStill_nil ?_
              change wpList _ _ _ _ _ wr.drew
              have HRd := Lib.hid (HR.out.kept (show Below wr.heap.size wr wr.drew from (Below.refl _ _).drew))
              obtain ⟨wq, hwq⟩ : ∃ u, u = wr.drew := ⟨_, rfl⟩
              rw [← hwq] at HRd ⊢
              clear hwq e0 l1 l2 l3 c1 c2 c3 HBm HBb HBw
              have hsz := HRd.out.bel.size
              go_wp2_with (at_builtin; refine push64 _ rfl _ _ rfl wm.heap.size _ k _ rfl (HRd.out.own.alloc _) ⟨_, 0, none⟩ y rfl (cell_one_new _ _ _) (by omega) (by simp; omega) ?_; intro g3 c4 w3 hown3 hgr3)
              have HP := Lib.hid (HRd.out.push _ HFx.out hown3 hgr3)
              clear hown3 hgr3
              go_wp2_with fail
              exact ⟨⟨k + 1, g3, c4, by omega, by go_num, rfl, HP.out⟩, by simp [intOf]; omega⟩
            · obtain rfl : m = k := by omega
              obtain ⟨hg, hcg1, hcg2, hrow⟩ := HR.out.done
              have HRo := Lib.hid hrow
              have HBr := Lib.hid HR.out.bel
              have hsz := HM.out.bel.size
              have hsz2 := HR.out.bel.size
              have hlt := RowB.lt hrow
              have HMk := Lib.hid (HM.out.kept HR.out.bel)
              clear hrow HR
              go_wp2_with (at_builtin; refine pushRow _ rfl _ _ rfl wo.heap.size _ j _ rfl (HMk.out.own.alloc _) ⟨wr.heap.size, 0, none⟩ (some ⟨gr, 0, none⟩) m cr rfl (cell_one_new _ _ _) (by omega) (by simp; omega) ?_; intro g3 c4 w3 hown3 hgr3)
              have HP := Lib.hid (HM.out.push (by decide) HBr.out hg HRo.out rfl hcg1 hcg2 _ hown3 hgr3)
              clear hown3 hgr3
              go_wp2_with fail
              exact ⟨⟨j + 1, g3, c4, _, _, by omega, by go_num, rfl, HP.out⟩, by simp [intOf]; omega⟩
        · obtain rfl : m = j := by omega
          obtain ⟨hcg1, hcg2, hmat⟩ := HM.out.done
          have HMt := Lib.hid hmat
          have HBr := Lib.hid HM.out.bel
          have hsz := HA.out.bel.size
          have hsz2 := HM.out.bel.size
          have hbz := HG.out.sz
          have HAk := Lib.hid (HA.out.kept HM.out.bel)
          have HBb := Lib.hid (HA.out.bel.trans (HM.out.bel.mono HA.out.bel.size))
          have ho := RowB.below HG.out.o HBb.out (by rw [hbz]; omega)
          have e1 := RowB.cell ho (show 0 < 1 by omega)
          clear hmat HM ho
          go_wp2_with (at_builtin; refine pushTab _ rfl _ _ rfl wb.heap.size _ q _ rfl (HAk.out.own.alloc _) ⟨wr.heap.size, 0, none⟩ (some ⟨gm, 0, none⟩) m cm rfl (cell_one_new _ _ _) (by omega) (by simp; omega) ?_; intro g3 c4 w3 hown3 hgr3; have HP := Lib.hid (HA.out.push HBr.out rfl hcg1 hcg2 HMt.out _ hown3 hgr3); have ho3 := RowB.below HG.out.o HP.out.bel (by rw [hbz]; omega); have e4 := RowB.cell ho3 (show 0 < 1 by omega); have e5 := RowB.frozen ho3 0; clear hown3 hgr3 ho3)
          have HP2 := Lib.hid (HP.out.base (a := ⟨w1.heap.size, 0, none⟩) (by rw [hbz]; show w1.heap.size < _; omega) (.slice (some ⟨g3, 0, none⟩) (q + 1) c4))
          have HG2 := Lib.hid (HG.out.store hl1 hl2 (.slice (some ⟨g3, 0, none⟩) (q + 1) c4))
          clear e1 e4 e5 HP
          exact ⟨⟨q + 1, _, _, _, _, _, _, _, by omega, by go_num, HP2.out, HG2.out⟩, by simp [intOf]; omega⟩
    · obtain rfl : m = q := by omega
      have hbz := HG.out.sz
      have hlt1 : w.heap.size + 1 < wb.heap.size := by omega
      have e1 := RowB.cell (RowB.below HG.out.o HA.out.bel (by rw [hbz]; omega)) (show 0 < 1 by omega)
      have hz4 := RowB.below HG.out.z HA.out.bel (by omega)
      have e2 := RowB.cell hz4 (show 0 < 1 by omega)
      have e3 := RowB.frozen hz4 0
      have e4 := RowB.cell (hz4.set 0 (.slice p m cq)) (show 0 < 1 by omega)
      rw [if_pos rfl] at e4
      obtain ⟨g, cg, hv⟩ := Go.Joins.ownsRow_form HA.out.own hm0
      simp only [Value.slice.injEq, true_and] at hv
      obtain ⟨rfl, rfl⟩ := hv
      have HD := Lib.hid (show CubO wr wb.heap.size wr.heap.size g m (fun _ => m) (fun _ _ => m) F from ⟨_, _, _, _, HA.out.done.2.2⟩)
      have HBw := Lib.hid (HG.out.bel.trans (HA.out.bel.mono HG.out.bel.size))
      clear hz4
      go_wp2_with fail
      refine bodyPost_ret (v := .agg #[.slice (some ⟨g, 0, none⟩) m cq]) (by simp [results, Try.results63, go_sem, e4]) rfl ?_
      refine ⟨g, cq, rfl, ?_, HBw.out.setCell (p := ⟨w.heap.size + 1, 0, none⟩) (by show w.heap.size ≤ w.heap.size + 1; omega) _⟩
      have hc := HD.out.only (Only.setCell (P := fun k => k = w.heap.size + 1) (Only.refl _ wr) (p := ⟨w.heap.size + 1, 0, none⟩) rfl (.slice (some ⟨g, 0, none⟩) m cq)) (fun k hk => by rw [hk]; omega)
      rw [HF.out] at hc
      exact hc.mono (by omega) (by rw [setCell_size]; exact Nat.le_refl _)
end Go.Proofs.Ytpfodikmidgpmaa
